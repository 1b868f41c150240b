/-
  Contract of the reader's term.
-/
import Derived.Test.YtkedifhlkiffoaaDoorPF
namespace Go.Proofs.YtkedifhlkiffoaaDoor
open Go.ChangeShapes Go.WideShapes Go.ChangeAt Go.RowKit
set_option linter.unusedVariables false
set_option linter.unusedSimpArgs false
attribute [local go_sem] Oper.semAt_some
def kindAt (ts : List (Tk × Nat)) (k : Nat) : Int := match ts[k]? with | some x => x.1.k | none => 0
/-- A term: its kind, number, names. -/
def termP (ts : List (Tk × Nat)) (k : Nat) : Except Nat ((Int × Int × Int × Int) × Nat) :=
  if kindAt ts k = 2 then namedP ts k
  else if mayP ts 5 45 k then (oneP ts 1 (k + 1)).map fun x => ((0, wrap64 (-x.1), 0, 0), x.2)
  else (oneP ts 1 k).map fun x => ((0, x.1, 0, 0), x.2)
set_option maxRecDepth 100000 in
set_option maxHeartbeats 1000000 in
theorem term_P {R g c k : Nat} {ts : List (Tk × Nat)} (w : World) (hE : EndsT ts) (hk : k < ts.length) (h : RdK R g c ts k w) :
    Calls Tryd.prog 121 #[.pointer (some ⟨R, 0, none⟩)] w (Told R g c ts (fun _ n u => u = tmV4 n) (termP ts k) w) := by
  obtain ⟨x, hx⟩ : ∃ x, ts[k]? = some x := ⟨_, List.getElem?_eq_getElem hk⟩
  have hgl : g < w.heap.size := by obtain ⟨-, ⟨base, h2⟩, -, -⟩ := h; exact tks_lt h2
  have hRl := h.lt
  have hR0 := h.kept (World.grownBy_alloc w (.cells #[.int .u8 0, .int .i64 0, .int .i64 0, .int .i64 0] 46) none)
  have hgR := World.grownBy_alloc w (.cells #[.int .u8 0, .int .i64 0, .int .i64 0, .int .i64 0] 46) (some R)
  have bA := World.alloc_heap_new w (.cells #[.int .u8 0, .int .i64 0, .int .i64 0, .int .i64 0] 46)
  obtain ⟨r0, -⟩ := hR0.cell hk
  obtain ⟨z0, z1, z2⟩ := hR0.tok hx
  obtain ⟨m, hm⟩ : ∃ m, ts.length - k = m + 1 := ⟨ts.length - k - 1, by omega⟩
  rw [hm] at r0
  have hka : kindAt ts k = x.1.k := by unfold kindAt; rw [hx]
  obtain ⟨RES, hRES⟩ : ∃ r, termP ts k = r := ⟨_, rfl⟩
  rw [hRES]
  replace hRES := Lib.hid hRES
  replace hE := Lib.hid hE
  obtain ⟨S, hS⟩ : ∃ S, w.heap.size = S := ⟨_, rfl⟩
  have s0 : w.heap.size ≤ S := by omega
  have n1 : S ≠ R := by omega
  have n3 : S ≠ g := by omega
  replace hka := Lib.hid hka
  clear hx h hm
  by_cases q2 : x.1.k = 2
  · have e2 : (x.1.k == 2) = true := by simp [q2]
    have hk2 := Lib.hid (hka.out.trans q2)
    have hM := Lib.hid (named_P (w.alloc (.cells #[.int .u8 0, .int .i64 0, .int .i64 0, .int .i64 0] 46)) hE.out hk hR0)
    obtain ⟨RF, hRF⟩ : ∃ r, namedP ts k = r := ⟨_, rfl⟩
    rw [hRF] at hM
    replace hRF := Lib.hid hRF
    clear q2
    go_enter Tryd.func121, Tryd.ntmps121
    go_wp2_with fail
    (with_reducible refine hM.out.mono ?_)
    rintro e w2 ⟨hg2, hT⟩
    rw [hS] at bA
    replace hgR := grown_more hgR hg2
    replace bA := box_kept bA hg2 n1
    clear hM r0 z0 z1 z2 hR0
    cases RF with
    | error j' =>
      obtain ⟨x, hx, rfl⟩ := hT
      replace hx := Lib.hid hx
      obtain rfl : RES = .error j' := by rw [← hRES.out]; unfold termP; simp [hk2.out, hRF.out, Except.map]
      go_wp2_with fail
      exact ⟨rfl, hgR, x, hx.out, rfl⟩
    | ok y =>
    obtain ⟨⟨kv, nv, sv, rv⟩, k2⟩ := y
    obtain ⟨⟨u, rfl, rfl⟩, hR2, hkk⟩ := hT
    obtain rfl : RES = .ok ((kv, nv, sv, rv), k2) := by rw [← hRES.out]; unfold termP; simp [hk2.out, hRF.out]
    have a0 := bA
    have c0 : (w2).cell? ⟨S, 0, none⟩ = some (.int .u8 0) := by simp [World.cell?, a0]
    have f0 : (w2).frozen? ⟨S, 0, none⟩ = false := by simp [World.frozen?, a0]
    have a1 := box_set a0 0 (.int .u8 kv)
    simp only [List.setIfInBounds_toArray, List.set_cons_zero, List.set_cons_succ] at a1
    have c1 : ((w2).setCell ⟨S, 0, none⟩ (.int .u8 kv)).cell? ⟨S, 1, none⟩ = some (.int .i64 0) := by simp [World.cell?, a1]
    have f1 : ((w2).setCell ⟨S, 0, none⟩ (.int .u8 kv)).frozen? ⟨S, 1, none⟩ = false := by simp [World.frozen?, a1]
    have a2 := box_set a1 1 (.int .i64 nv)
    simp only [List.setIfInBounds_toArray, List.set_cons_zero, List.set_cons_succ] at a2
    have c2 : (((w2).setCell ⟨S, 0, none⟩ (.int .u8 kv)).setCell ⟨S, 1, none⟩ (.int .i64 nv)).cell? ⟨S, 2, none⟩ = some (.int .i64 0) := by simp [World.cell?, a2]
    have f2 : (((w2).setCell ⟨S, 0, none⟩ (.int .u8 kv)).setCell ⟨S, 1, none⟩ (.int .i64 nv)).frozen? ⟨S, 2, none⟩ = false := by simp [World.frozen?, a2]
    have a3 := box_set a2 2 (.int .i64 sv)
    simp only [List.setIfInBounds_toArray, List.set_cons_zero, List.set_cons_succ] at a3
    have c3 : ((((w2).setCell ⟨S, 0, none⟩ (.int .u8 kv)).setCell ⟨S, 1, none⟩ (.int .i64 nv)).setCell ⟨S, 2, none⟩ (.int .i64 sv)).cell? ⟨S, 3, none⟩ = some (.int .i64 0) := by simp [World.cell?, a3]
    have f3 : ((((w2).setCell ⟨S, 0, none⟩ (.int .u8 kv)).setCell ⟨S, 1, none⟩ (.int .i64 nv)).setCell ⟨S, 2, none⟩ (.int .i64 sv)).frozen? ⟨S, 3, none⟩ = false := by simp [World.frozen?, a3]
    have a4 := box_set a3 3 (.int .i64 rv)
    simp only [List.setIfInBounds_toArray, List.set_cons_zero, List.set_cons_succ] at a4
    have hgZ := grown_set (o := 3) (v := .int .i64 rv) (grown_set (o := 2) (v := .int .i64 sv) (grown_set (o := 1) (v := .int .i64 nv) (grown_set (o := 0) (v := .int .u8 kv) hgR s0) s0) s0) s0
    have hRZ := (((hR2.far (o := 0) (v := .int .u8 kv) n1 n3).far (o := 1) (v := .int .i64 nv) n1 n3).far (o := 2) (v := .int .i64 sv) n1 n3).far (o := 3) (v := .int .i64 rv) n1 n3
    replace hgZ := Lib.hid hgZ
    replace hRZ := Lib.hid hRZ
    clear bA hgR hR2 a0 a1 a2 a3 hRES
    go_wp2_with fail
    exact bodyPost_ret (v := .agg #[.int .u8 kv, .int .i64 nv, .int .i64 sv, .int .i64 rv]) (results_cell_row rfl _ _ S 46 _ (0, 0) _ rfl a4 Tryd.underlying46 rfl (by kernel_rfl)) rfl ⟨hgZ.out, ⟨_, rfl, rfl⟩, hRZ.out, hkk⟩
  have e2 : (x.1.k == 2) = false := by simp [q2]
  have hk2 : Hid (¬ kindAt ts k = 2) := by show ¬ _; rw [hka.out]; exact q2
  have hM := Lib.hid (may_P 5 45 (w.alloc (.cells #[.int .u8 0, .int .i64 0, .int .i64 0, .int .i64 0] 46)) hE.out hk (by decide) hR0)
  obtain ⟨b, hb⟩ : ∃ b, mayP ts 5 45 k = b := ⟨_, rfl⟩
  rw [hb] at hM
  replace hb := Lib.hid hb
  clear q2
  go_enter Tryd.func121, Tryd.ntmps121
  go_wp2_with fail
  (with_reducible refine hM.out.mono ?_)
  rintro e w2 ⟨rfl, hR2, hg2, hkk⟩
  rw [hS] at bA
  replace hgR := grown_more hgR hg2
  replace bA := box_kept bA hg2 n1
  clear hM r0 z0 z1 z2 hR0
  cases b
  · replace hR2 : RdK R g c ts k w2 := hR2
    replace hkk : k < ts.length := hkk
    have hO := Lib.hid (one_P 1 w2 hE.out hkk (by decide) hR2)
    obtain ⟨RF, hRF⟩ : ∃ r, oneP ts 1 k = r := ⟨_, rfl⟩
    rw [hRF] at hO
    replace hRF := Lib.hid hRF
    clear hR2
    go_wp2_with fail
    (with_reducible refine hO.out.mono ?_)
    rintro e w3 ⟨hg3, hT⟩
    replace hgR := grown_more hgR hg3
    replace bA := box_kept bA hg3 n1
    clear hO
    cases RF with
    | error j' =>
      obtain ⟨x, hx, rfl⟩ := hT
      replace hx := Lib.hid hx
      obtain rfl : RES = .error j' := by rw [← hRES.out]; unfold termP; simp [hk2.out, hb.out, hRF.out, Except.map]
      go_wp2_with fail
      exact ⟨rfl, hgR, x, hx.out, rfl⟩
    | ok y =>
    obtain ⟨nv, k2⟩ := y
    obtain ⟨⟨u, rfl, rfl⟩, hR3, hk3⟩ := hT
    obtain rfl : RES = .ok ((0, nv, 0, 0), k2) := by rw [← hRES.out]; unfold termP; simp [hk2.out, hb.out, hRF.out, Except.map]
    have a0 := bA
    have c0 : (w3).cell? ⟨S, 0, none⟩ = some (.int .u8 0) := by simp [World.cell?, a0]
    have f0 : (w3).frozen? ⟨S, 0, none⟩ = false := by simp [World.frozen?, a0]
    have a1 := box_set a0 0 (.int .u8 0)
    simp only [List.setIfInBounds_toArray, List.set_cons_zero, List.set_cons_succ] at a1
    have c1 : ((w3).setCell ⟨S, 0, none⟩ (.int .u8 0)).cell? ⟨S, 1, none⟩ = some (.int .i64 0) := by simp [World.cell?, a1]
    have f1 : ((w3).setCell ⟨S, 0, none⟩ (.int .u8 0)).frozen? ⟨S, 1, none⟩ = false := by simp [World.frozen?, a1]
    have a2 := box_set a1 1 (.int .i64 (nv))
    simp only [List.setIfInBounds_toArray, List.set_cons_zero, List.set_cons_succ] at a2
    have c2 : (((w3).setCell ⟨S, 0, none⟩ (.int .u8 0)).setCell ⟨S, 1, none⟩ (.int .i64 (nv))).cell? ⟨S, 2, none⟩ = some (.int .i64 0) := by simp [World.cell?, a2]
    have f2 : (((w3).setCell ⟨S, 0, none⟩ (.int .u8 0)).setCell ⟨S, 1, none⟩ (.int .i64 (nv))).frozen? ⟨S, 2, none⟩ = false := by simp [World.frozen?, a2]
    have a3 := box_set a2 2 (.int .i64 0)
    simp only [List.setIfInBounds_toArray, List.set_cons_zero, List.set_cons_succ] at a3
    have c3 : ((((w3).setCell ⟨S, 0, none⟩ (.int .u8 0)).setCell ⟨S, 1, none⟩ (.int .i64 (nv))).setCell ⟨S, 2, none⟩ (.int .i64 0)).cell? ⟨S, 3, none⟩ = some (.int .i64 0) := by simp [World.cell?, a3]
    have f3 : ((((w3).setCell ⟨S, 0, none⟩ (.int .u8 0)).setCell ⟨S, 1, none⟩ (.int .i64 (nv))).setCell ⟨S, 2, none⟩ (.int .i64 0)).frozen? ⟨S, 3, none⟩ = false := by simp [World.frozen?, a3]
    have a4 := box_set a3 3 (.int .i64 0)
    simp only [List.setIfInBounds_toArray, List.set_cons_zero, List.set_cons_succ] at a4
    have hgZ := grown_set (o := 3) (v := .int .i64 0) (grown_set (o := 2) (v := .int .i64 0) (grown_set (o := 1) (v := .int .i64 (nv)) (grown_set (o := 0) (v := .int .u8 0) hgR s0) s0) s0) s0
    have hRZ := (((hR3.far (o := 0) (v := .int .u8 0) n1 n3).far (o := 1) (v := .int .i64 (nv)) n1 n3).far (o := 2) (v := .int .i64 0) n1 n3).far (o := 3) (v := .int .i64 0) n1 n3
    replace hgZ := Lib.hid hgZ
    replace hRZ := Lib.hid hRZ
    clear bA hgR hR3 a0 a1 a2 a3 hRES
    go_wp2_with fail
    exact bodyPost_ret (v := .agg #[.int .u8 0, .int .i64 (nv), .int .i64 0, .int .i64 0]) (results_cell_row rfl _ _ S 46 _ (0, 0) _ rfl a4 Tryd.underlying46 rfl (by kernel_rfl)) rfl ⟨hgZ.out, ⟨_, rfl, rfl⟩, hRZ.out, hk3⟩
  · replace hR2 : RdK R g c ts (k + 1) w2 := hR2
    replace hkk : (k + 1) < ts.length := hkk
    have hO := Lib.hid (one_P 1 w2 hE.out hkk (by decide) hR2)
    obtain ⟨RF, hRF⟩ : ∃ r, oneP ts 1 (k + 1) = r := ⟨_, rfl⟩
    rw [hRF] at hO
    replace hRF := Lib.hid hRF
    clear hR2
    go_wp2_with fail
    (with_reducible refine hO.out.mono ?_)
    rintro e w3 ⟨hg3, hT⟩
    replace hgR := grown_more hgR hg3
    replace bA := box_kept bA hg3 n1
    clear hO
    cases RF with
    | error j' =>
      obtain ⟨x, hx, rfl⟩ := hT
      replace hx := Lib.hid hx
      obtain rfl : RES = .error j' := by rw [← hRES.out]; unfold termP; simp [hk2.out, hb.out, hRF.out, Except.map]
      go_wp2_with fail
      exact ⟨rfl, hgR, x, hx.out, rfl⟩
    | ok y =>
    obtain ⟨nv, k2⟩ := y
    obtain ⟨⟨u, rfl, rfl⟩, hR3, hk3⟩ := hT
    obtain rfl : RES = .ok ((0, wrap64 (-nv), 0, 0), k2) := by rw [← hRES.out]; unfold termP; simp [hk2.out, hb.out, hRF.out, Except.map]
    have a0 := bA
    have c0 : (w3).cell? ⟨S, 0, none⟩ = some (.int .u8 0) := by simp [World.cell?, a0]
    have f0 : (w3).frozen? ⟨S, 0, none⟩ = false := by simp [World.frozen?, a0]
    have a1 := box_set a0 0 (.int .u8 0)
    simp only [List.setIfInBounds_toArray, List.set_cons_zero, List.set_cons_succ] at a1
    have c1 : ((w3).setCell ⟨S, 0, none⟩ (.int .u8 0)).cell? ⟨S, 1, none⟩ = some (.int .i64 0) := by simp [World.cell?, a1]
    have f1 : ((w3).setCell ⟨S, 0, none⟩ (.int .u8 0)).frozen? ⟨S, 1, none⟩ = false := by simp [World.frozen?, a1]
    have a2 := box_set a1 1 (.int .i64 (wrap64 (-nv)))
    simp only [List.setIfInBounds_toArray, List.set_cons_zero, List.set_cons_succ] at a2
    have c2 : (((w3).setCell ⟨S, 0, none⟩ (.int .u8 0)).setCell ⟨S, 1, none⟩ (.int .i64 (wrap64 (-nv)))).cell? ⟨S, 2, none⟩ = some (.int .i64 0) := by simp [World.cell?, a2]
    have f2 : (((w3).setCell ⟨S, 0, none⟩ (.int .u8 0)).setCell ⟨S, 1, none⟩ (.int .i64 (wrap64 (-nv)))).frozen? ⟨S, 2, none⟩ = false := by simp [World.frozen?, a2]
    have a3 := box_set a2 2 (.int .i64 0)
    simp only [List.setIfInBounds_toArray, List.set_cons_zero, List.set_cons_succ] at a3
    have c3 : ((((w3).setCell ⟨S, 0, none⟩ (.int .u8 0)).setCell ⟨S, 1, none⟩ (.int .i64 (wrap64 (-nv)))).setCell ⟨S, 2, none⟩ (.int .i64 0)).cell? ⟨S, 3, none⟩ = some (.int .i64 0) := by simp [World.cell?, a3]
    have f3 : ((((w3).setCell ⟨S, 0, none⟩ (.int .u8 0)).setCell ⟨S, 1, none⟩ (.int .i64 (wrap64 (-nv)))).setCell ⟨S, 2, none⟩ (.int .i64 0)).frozen? ⟨S, 3, none⟩ = false := by simp [World.frozen?, a3]
    have a4 := box_set a3 3 (.int .i64 0)
    simp only [List.setIfInBounds_toArray, List.set_cons_zero, List.set_cons_succ] at a4
    have hgZ := grown_set (o := 3) (v := .int .i64 0) (grown_set (o := 2) (v := .int .i64 0) (grown_set (o := 1) (v := .int .i64 (wrap64 (-nv))) (grown_set (o := 0) (v := .int .u8 0) hgR s0) s0) s0) s0
    have hRZ := (((hR3.far (o := 0) (v := .int .u8 0) n1 n3).far (o := 1) (v := .int .i64 (wrap64 (-nv))) n1 n3).far (o := 2) (v := .int .i64 0) n1 n3).far (o := 3) (v := .int .i64 0) n1 n3
    replace hgZ := Lib.hid hgZ
    replace hRZ := Lib.hid hRZ
    clear bA hgR hR3 a0 a1 a2 a3 hRES
    go_wp2_with fail
    exact bodyPost_ret (v := .agg #[.int .u8 0, .int .i64 (wrap64 (-nv)), .int .i64 0, .int .i64 0]) (results_cell_row rfl _ _ S 46 _ (0, 0) _ rfl a4 Tryd.underlying46 rfl (by kernel_rfl)) rfl ⟨hgZ.out, ⟨_, rfl, rfl⟩, hRZ.out, hk3⟩
end Go.Proofs.YtkedifhlkiffoaaDoor
