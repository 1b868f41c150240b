/-
  Contract of the reader's named.
-/
import Derived.Test.YtkedifhlkiffoaaDoorPE
namespace Go.Proofs.YtkedifhlkiffoaaDoor
open Go.ChangeShapes Go.WideShapes Go.ChangeAt Go.RowKit
set_option linter.unusedVariables false
set_option linter.unusedSimpArgs false
attribute [local go_sem] Oper.semAt_some
theorem rest_no {B : Nat} {l : Int} (h1 : l ≠ 19) (h2 : l ≠ 23) (h3 : l ≠ 24) (h4 : l ≠ 13) (h5 : l ≠ 3) (h6 : l ≠ 2) :
    Instr.findNow (.int .i64) (.int .i64 l) [{ key := .int .i64 19, val := RestF 131 B, born := 0 }, { key := .int .i64 23, val := RestF 133 B, born := 1 }, { key := .int .i64 24, val := RestF 134 B, born := 2 }, { key := .int .i64 13, val := RestF 135 B, born := 3 }, { key := .int .i64 3, val := RestF 136 B, born := 4 }, { key := .int .i64 2, val := RestF 138 B, born := 5 }] 0 = some none := by
  have e : ∀ k : Int, Instr.sameNow (.int .i64) (.int .i64 l) (.int .i64 k) = some (l == k) := fun k => rfl
  have f : ∀ k : Int, l ≠ k → (l == k) = false := fun k h => beq_false_of_ne h
  simp [Instr.findNow, e, f _ h1, f _ h2, f _ h3, f _ h4, f _ h5, f _ h6]
theorem rest_get0 {w : World} {r : Nat} {es : Array MapEntry} {clock : Nat} {k : Int} (h : w.heap[r]? = some (.map es clock)) (hf : Instr.findNow (.int .i64) (.int .i64 k) es.toList 0 = some none) :
    (Instr.lookup 152 (.map (some r)) (.int .i64 k) true).run Tryd.prog w = .ok (.tuple #[.nilFunc, .bool false]) w := by
  have hc : (Instr.checkKey es.isEmpty 10000 3 (.int .i64 k)).run Tryd.prog w = .ok () w := MapKept.run_checkKey (d := .int .i64) (k := .int .i64 k) Tryd.underlying3 (by simp [MapKept.IsKey]) _ 9999
  simp [Instr.lookup, run_underlying Tryd.underlying152, MapKept.run_getObj_map h, hc, MapKept.run_findKey Tryd.underlying3 hf, Result.andThen]
/-- A term that begins with a letter: its kind, number, names. -/
def namedP (ts : List (Tk × Nat)) (k : Nat) : Except Nat ((Int × Int × Int × Int) × Nat) :=
  match oneP ts 2 k with
  | .error j => .error j
  | .ok (l, k1) =>
    if l = 19 then (ofOneP ts k1).map fun x => ((1, x.1.1, x.1.2, 0), x.2)
    else if l = 23 then (ofOneP ts k1).map fun x => ((2, x.1.1, x.1.2, 0), x.2)
    else if l = 24 then (ofOneP ts k1).map fun x => ((3, x.1.1, x.1.2, 0), x.2)
    else if l = 13 then (ofOneP ts k1).map fun x => ((4, x.1.1, x.1.2, 0), x.2)
    else if l = 3 then (ofTwoP ts k1).map fun x => ((5, x.1.1, x.1.2.1, x.1.2.2), x.2)
    else if l = 2 then (ofTwoP ts k1).map fun x => ((6, x.1.1, x.1.2.1, x.1.2.2), x.2)
    else .error k
abbrev tmV4 (n : Int × Int × Int × Int) : Value := .agg #[.int .u8 n.1, .int .i64 n.2.1, .int .i64 n.2.2.1, .int .i64 n.2.2.2]
set_option maxRecDepth 100000 in
set_option maxHeartbeats 1000000 in
theorem named_P {R g c k : Nat} {ts : List (Tk × Nat)} (w : World) (hE : EndsT ts) (hk : k < ts.length) (h : RdK R g c ts k w) :
    Calls Tryd.prog 127 #[.pointer (some ⟨R, 0, none⟩)] w (Told R g c ts (fun _ n u => u = tmV4 n) (namedP ts k) w) := by
  obtain ⟨x, hx⟩ : ∃ x, ts[k]? = some x := ⟨_, List.getElem?_eq_getElem hk⟩
  have hgl : g < w.heap.size := by obtain ⟨-, ⟨base, h2⟩, -, -⟩ := h; exact tks_lt h2
  have hRl := h.lt
  obtain ⟨r0, -⟩ := h.cell hk
  obtain ⟨z0, z1, z2⟩ := h.tok hx
  obtain ⟨m, hm⟩ : ∃ m, ts.length - k = m + 1 := ⟨ts.length - k - 1, by omega⟩
  rw [hm] at r0
  have hA0 := h.kept (World.grownBy_alloc w (.cells #[.int .u8 0, .int .i64 0, .int .i64 0, .int .i64 0] 46) none)
  have hg0 : w.grownBy ((((w.alloc (.cells #[.int .u8 0, .int .i64 0, .int .i64 0, .int .i64 0] 46)).alloc (.cells #[.int .u8 x.1.k, .int .i64 x.1.n, .int .i64 x.2] 35)).alloc (.cells #[.pointer (some ⟨R, 0, none⟩)] 102)).alloc (restMap (w.heap.size + 2))) none := (((World.grownBy_alloc w _ none).trans (World.grownBy_alloc _ _ none)).trans (World.grownBy_alloc _ _ none)).trans (World.grownBy_alloc _ _ none)
  have hgR : w.grownBy ((((w.alloc (.cells #[.int .u8 0, .int .i64 0, .int .i64 0, .int .i64 0] 46)).alloc (.cells #[.int .u8 x.1.k, .int .i64 x.1.n, .int .i64 x.2] 35)).alloc (.cells #[.pointer (some ⟨R, 0, none⟩)] 102)).alloc (restMap (w.heap.size + 2))) (some R) := (((World.grownBy_alloc w _ (some R)).trans (World.grownBy_alloc _ _ (some R))).trans (World.grownBy_alloc _ _ (some R))).trans (World.grownBy_alloc _ _ (some R))
  have hR4 := h.kept hg0
  have bA : ((((w.alloc (.cells #[.int .u8 0, .int .i64 0, .int .i64 0, .int .i64 0] 46)).alloc (.cells #[.int .u8 x.1.k, .int .i64 x.1.n, .int .i64 x.2] 35)).alloc (.cells #[.pointer (some ⟨R, 0, none⟩)] 102)).alloc (restMap (w.heap.size + 2))).heap[w.heap.size]? = some (.cells #[.int .u8 0, .int .i64 0, .int .i64 0, .int .i64 0] 46 (0, 0)) := by
    have h1 := World.alloc_heap_new w (.cells #[.int .u8 0, .int .i64 0, .int .i64 0, .int .i64 0] 46)
    have h2 := ((World.grownBy_alloc (w.alloc (.cells #[.int .u8 0, .int .i64 0, .int .i64 0, .int .i64 0] 46)) (.cells #[.int .u8 x.1.k, .int .i64 x.1.n, .int .i64 x.2] 35) none).block _ (Array.getElem?_eq_some_iff.1 h1).1 (by simp)).trans h1
    have h3 := ((World.grownBy_alloc _ (.cells #[.pointer (some ⟨R, 0, none⟩)] 102) none).block _ (Array.getElem?_eq_some_iff.1 h2).1 (by simp)).trans h2
    exact ((World.grownBy_alloc _ (restMap (w.heap.size + 2)) none).block _ (Array.getElem?_eq_some_iff.1 h3).1 (by simp)).trans h3
  have bT : ((((w.alloc (.cells #[.int .u8 0, .int .i64 0, .int .i64 0, .int .i64 0] 46)).alloc (.cells #[.int .u8 x.1.k, .int .i64 x.1.n, .int .i64 x.2] 35)).alloc (.cells #[.pointer (some ⟨R, 0, none⟩)] 102)).alloc (restMap (w.heap.size + 2))).heap[w.heap.size + 1]? = some (.cells #[.int .u8 x.1.k, .int .i64 x.1.n, .int .i64 x.2] 35 (0, 0)) := by
    have h2 := World.alloc_heap_new (w.alloc (.cells #[.int .u8 0, .int .i64 0, .int .i64 0, .int .i64 0] 46)) (.cells #[.int .u8 x.1.k, .int .i64 x.1.n, .int .i64 x.2] 35)
    rw [World.size_alloc] at h2
    have h3 := ((World.grownBy_alloc _ (.cells #[.pointer (some ⟨R, 0, none⟩)] 102) none).block _ (Array.getElem?_eq_some_iff.1 h2).1 (by simp)).trans h2
    exact ((World.grownBy_alloc _ (restMap (w.heap.size + 2)) none).block _ (Array.getElem?_eq_some_iff.1 h3).1 (by simp)).trans h3
  have bB : RpBox (w.heap.size + 2) R ((((w.alloc (.cells #[.int .u8 0, .int .i64 0, .int .i64 0, .int .i64 0] 46)).alloc (.cells #[.int .u8 x.1.k, .int .i64 x.1.n, .int .i64 x.2] 35)).alloc (.cells #[.pointer (some ⟨R, 0, none⟩)] 102)).alloc (restMap (w.heap.size + 2))) := by
    have h3 := World.alloc_heap_new ((w.alloc (.cells #[.int .u8 0, .int .i64 0, .int .i64 0, .int .i64 0] 46)).alloc (.cells #[.int .u8 x.1.k, .int .i64 x.1.n, .int .i64 x.2] 35)) (.cells #[.pointer (some ⟨R, 0, none⟩)] 102)
    rw [World.size_alloc, World.size_alloc] at h3
    exact ((World.grownBy_alloc _ (restMap (w.heap.size + 2)) none).block _ (Array.getElem?_eq_some_iff.1 h3).1 (by simp)).trans h3
  have bM : ((((w.alloc (.cells #[.int .u8 0, .int .i64 0, .int .i64 0, .int .i64 0] 46)).alloc (.cells #[.int .u8 x.1.k, .int .i64 x.1.n, .int .i64 x.2] 35)).alloc (.cells #[.pointer (some ⟨R, 0, none⟩)] 102)).alloc (restMap (w.heap.size + 2))).heap[w.heap.size + 3]? = some (restMap (w.heap.size + 2)) := by
    have h4 := World.alloc_heap_new (((w.alloc (.cells #[.int .u8 0, .int .i64 0, .int .i64 0, .int .i64 0] 46)).alloc (.cells #[.int .u8 x.1.k, .int .i64 x.1.n, .int .i64 x.2] 35)).alloc (.cells #[.pointer (some ⟨R, 0, none⟩)] 102)) (restMap (w.heap.size + 2))
    rw [World.size_alloc, World.size_alloc, World.size_alloc] at h4
    exact h4
  have HR := rests_any R ((w.alloc (.cells #[.int .u8 0, .int .i64 0, .int .i64 0, .int .i64 0] 46)).alloc (.cells #[.int .u8 x.1.k, .int .i64 x.1.n, .int .i64 x.2] 35))
  rw [World.size_alloc, World.size_alloc] at HR
  clear r0 z0 z1 z2
  obtain ⟨r0, -⟩ := hA0.cell hk
  obtain ⟨z0, z1, z2⟩ := hA0.tok hx
  rw [hm] at r0
  obtain ⟨RES, hRES⟩ : ∃ r, namedP ts k = r := ⟨_, rfl⟩
  rw [hRES]
  replace hRES := Lib.hid hRES
  replace hx := Lib.hid hx
  replace hE := Lib.hid hE
  clear hA0 hg0 h hm
  go_enter Tryd.func127, Tryd.ntmps127
  go_wp2_with fail
  (with_reducible refine HR.mono ?_)
  rintro e w4 ⟨rfl, rfl⟩
  clear HR r0 z0 z1 z2
  generalize ((((w.alloc (.cells #[.int .u8 0, .int .i64 0, .int .i64 0, .int .i64 0] 46)).alloc (.cells #[.int .u8 x.1.k, .int .i64 x.1.n, .int .i64 x.2] 35)).alloc (.cells #[.pointer (some ⟨R, 0, none⟩)] 102)).alloc (restMap (w.heap.size + 2))) = W4 at *
  obtain ⟨S, hS⟩ : ∃ S, w.heap.size = S := ⟨_, rfl⟩
  rw [hS] at hgl hRl bA bT bB bM ⊢
  have s0 : w.heap.size ≤ S := by omega
  have n1 : S ≠ R := by omega
  have n2 : S + 1 ≠ R := by omega
  have n3 : S ≠ g := by omega
  have n4 : S + 2 ≠ R := by omega
  have n5 : S + 3 ≠ R := by omega
  replace hS := Lib.hid hS
  go_wp2_with fail
  (with_reducible refine (one_P 2 W4 hE.out hk (by decide) hR4).mono ?_)
  rintro e w1 ⟨hg1, hT⟩
  cases hr1 : oneP ts 2 k with
  | error j' =>
    simp only [hr1] at hT
    obtain ⟨x, hx, rfl⟩ := hT
    replace hx := Lib.hid hx
    obtain rfl : RES = .error j' := by rw [← hRES.out]; unfold namedP; simp only [hr1]
    clear hr1
    go_wp2_with fail
    exact ⟨rfl, grown_more hgR hg1, x, hx.out, rfl⟩
  | ok y =>
  obtain ⟨l, k1⟩ := y
  rw [hr1] at hT
  obtain ⟨⟨u, rfl, rfl⟩, hR1, hk1⟩ := hT
  replace hr1 := Lib.hid hr1
  replace hgR := grown_more hgR hg1
  replace bA := box_kept bA hg1 n1
  replace bT := box_kept bT hg1 n2
  replace bB : RpBox (S + 2) R w1 := box_kept bB hg1 n4
  replace bM := (hg1.block _ (Array.getElem?_eq_some_iff.1 bM).1 (fun e => n5 (Option.some.inj e))).trans bM
  unfold restMap at bM
  have t0 : w1.cell? ⟨S + 1, 0, none⟩ = some (.int .u8 x.1.k) := by simp [World.cell?, bT]
  have t1 : w1.cell? ⟨S + 1, 1, none⟩ = some (.int .i64 x.1.n) := by simp [World.cell?, bT]
  have t2 : w1.cell? ⟨S + 1, 2, none⟩ = some (.int .i64 x.2) := by simp [World.cell?, bT]
  clear hg1 hR4 bT
  by_cases q19 : l = 19
  · subst q19
    have hL := rest_get (k := 19) bM rfl
    obtain ⟨RF, hRF⟩ : ∃ r, ofOneP ts k1 = r := ⟨_, rfl⟩
    have hM := Lib.hid (rest79_P w1 hE.out hk1 hR1 bB)
    rw [hRF] at hM
    replace hRF := Lib.hid hRF
    clear t0 t1 t2 bM bB hR1
    go_wp2_with fail
    (with_reducible refine hM.out.mono ?_)
    rintro e w2 ⟨hg2, hT⟩
    clear hM hL
    replace hgR := grown_more hgR hg2
    replace bA := box_kept bA hg2 n1
    cases RF with
    | error j' =>
      obtain ⟨x, hx, rfl⟩ := hT
      replace hx := Lib.hid hx
      obtain rfl : RES = .error j' := by rw [← hRES.out]; unfold namedP; simp [hr1.out, hRF.out, Except.map]
      go_wp2_with fail
      exact ⟨rfl, hgR, x, hx.out, rfl⟩
    | ok y =>
    obtain ⟨⟨nv, sv⟩, k2⟩ := y
    obtain ⟨⟨u, rfl, rfl⟩, hR2, hk2⟩ := hT
    obtain rfl : RES = .ok ((1, nv, sv, 0), k2) := by rw [← hRES.out]; unfold namedP; simp [hr1.out, hRF.out, Except.map]
    have a0 := bA
    have c0 : (w2).cell? ⟨S, 0, none⟩ = some (.int .u8 0) := by simp [World.cell?, a0]
    have f0 : (w2).frozen? ⟨S, 0, none⟩ = false := by simp [World.frozen?, a0]
    have a1 := box_set a0 0 (.int .u8 1)
    simp only [List.setIfInBounds_toArray, List.set_cons_zero, List.set_cons_succ] at a1
    have c1 : ((w2).setCell ⟨S, 0, none⟩ (.int .u8 1)).cell? ⟨S, 1, none⟩ = some (.int .i64 0) := by simp [World.cell?, a1]
    have f1 : ((w2).setCell ⟨S, 0, none⟩ (.int .u8 1)).frozen? ⟨S, 1, none⟩ = false := by simp [World.frozen?, a1]
    have a2 := box_set a1 1 (.int .i64 nv)
    simp only [List.setIfInBounds_toArray, List.set_cons_zero, List.set_cons_succ] at a2
    have c2 : (((w2).setCell ⟨S, 0, none⟩ (.int .u8 1)).setCell ⟨S, 1, none⟩ (.int .i64 nv)).cell? ⟨S, 2, none⟩ = some (.int .i64 0) := by simp [World.cell?, a2]
    have f2 : (((w2).setCell ⟨S, 0, none⟩ (.int .u8 1)).setCell ⟨S, 1, none⟩ (.int .i64 nv)).frozen? ⟨S, 2, none⟩ = false := by simp [World.frozen?, a2]
    have a3 := box_set a2 2 (.int .i64 sv)
    simp only [List.setIfInBounds_toArray, List.set_cons_zero, List.set_cons_succ] at a3
    have c3 : ((((w2).setCell ⟨S, 0, none⟩ (.int .u8 1)).setCell ⟨S, 1, none⟩ (.int .i64 nv)).setCell ⟨S, 2, none⟩ (.int .i64 sv)).cell? ⟨S, 3, none⟩ = some (.int .i64 0) := by simp [World.cell?, a3]
    have f3 : ((((w2).setCell ⟨S, 0, none⟩ (.int .u8 1)).setCell ⟨S, 1, none⟩ (.int .i64 nv)).setCell ⟨S, 2, none⟩ (.int .i64 sv)).frozen? ⟨S, 3, none⟩ = false := by simp [World.frozen?, a3]
    have a4 := box_set a3 3 (.int .i64 0)
    simp only [List.setIfInBounds_toArray, List.set_cons_zero, List.set_cons_succ] at a4
    have hgZ := grown_set (o := 3) (v := .int .i64 0) (grown_set (o := 2) (v := .int .i64 sv) (grown_set (o := 1) (v := .int .i64 nv) (grown_set (o := 0) (v := .int .u8 1) hgR s0) s0) s0) s0
    have hRZ := (((hR2.far (o := 0) (v := .int .u8 1) n1 n3).far (o := 1) (v := .int .i64 nv) n1 n3).far (o := 2) (v := .int .i64 sv) n1 n3).far (o := 3) (v := .int .i64 0) n1 n3
    replace hgZ := Lib.hid hgZ
    replace hRZ := Lib.hid hRZ
    clear bA hgR hR2 a0 a1 a2 a3 hRES hRF
    go_wp2_with fail
    exact bodyPost_ret (v := .agg #[.int .u8 1, .int .i64 nv, .int .i64 sv, .int .i64 0]) (results_cell_row rfl _ _ S 46 _ (0, 0) _ rfl a4 Tryd.underlying46 rfl (by kernel_rfl)) rfl ⟨hgZ.out, ⟨_, rfl, rfl⟩, hRZ.out, hk2⟩
  by_cases q23 : l = 23
  · subst q23
    have hL := rest_get (k := 23) bM rfl
    obtain ⟨RF, hRF⟩ : ∃ r, ofOneP ts k1 = r := ⟨_, rfl⟩
    have hM := Lib.hid (rest81_P w1 hE.out hk1 hR1 bB)
    rw [hRF] at hM
    replace hRF := Lib.hid hRF
    clear t0 t1 t2 bM bB hR1
    go_wp2_with fail
    (with_reducible refine hM.out.mono ?_)
    rintro e w2 ⟨hg2, hT⟩
    clear hM hL
    replace hgR := grown_more hgR hg2
    replace bA := box_kept bA hg2 n1
    cases RF with
    | error j' =>
      obtain ⟨x, hx, rfl⟩ := hT
      replace hx := Lib.hid hx
      obtain rfl : RES = .error j' := by rw [← hRES.out]; unfold namedP; simp [hr1.out, hRF.out, Except.map]
      go_wp2_with fail
      exact ⟨rfl, hgR, x, hx.out, rfl⟩
    | ok y =>
    obtain ⟨⟨nv, sv⟩, k2⟩ := y
    obtain ⟨⟨u, rfl, rfl⟩, hR2, hk2⟩ := hT
    obtain rfl : RES = .ok ((2, nv, sv, 0), k2) := by rw [← hRES.out]; unfold namedP; simp [hr1.out, hRF.out, Except.map]
    have a0 := bA
    have c0 : (w2).cell? ⟨S, 0, none⟩ = some (.int .u8 0) := by simp [World.cell?, a0]
    have f0 : (w2).frozen? ⟨S, 0, none⟩ = false := by simp [World.frozen?, a0]
    have a1 := box_set a0 0 (.int .u8 2)
    simp only [List.setIfInBounds_toArray, List.set_cons_zero, List.set_cons_succ] at a1
    have c1 : ((w2).setCell ⟨S, 0, none⟩ (.int .u8 2)).cell? ⟨S, 1, none⟩ = some (.int .i64 0) := by simp [World.cell?, a1]
    have f1 : ((w2).setCell ⟨S, 0, none⟩ (.int .u8 2)).frozen? ⟨S, 1, none⟩ = false := by simp [World.frozen?, a1]
    have a2 := box_set a1 1 (.int .i64 nv)
    simp only [List.setIfInBounds_toArray, List.set_cons_zero, List.set_cons_succ] at a2
    have c2 : (((w2).setCell ⟨S, 0, none⟩ (.int .u8 2)).setCell ⟨S, 1, none⟩ (.int .i64 nv)).cell? ⟨S, 2, none⟩ = some (.int .i64 0) := by simp [World.cell?, a2]
    have f2 : (((w2).setCell ⟨S, 0, none⟩ (.int .u8 2)).setCell ⟨S, 1, none⟩ (.int .i64 nv)).frozen? ⟨S, 2, none⟩ = false := by simp [World.frozen?, a2]
    have a3 := box_set a2 2 (.int .i64 sv)
    simp only [List.setIfInBounds_toArray, List.set_cons_zero, List.set_cons_succ] at a3
    have c3 : ((((w2).setCell ⟨S, 0, none⟩ (.int .u8 2)).setCell ⟨S, 1, none⟩ (.int .i64 nv)).setCell ⟨S, 2, none⟩ (.int .i64 sv)).cell? ⟨S, 3, none⟩ = some (.int .i64 0) := by simp [World.cell?, a3]
    have f3 : ((((w2).setCell ⟨S, 0, none⟩ (.int .u8 2)).setCell ⟨S, 1, none⟩ (.int .i64 nv)).setCell ⟨S, 2, none⟩ (.int .i64 sv)).frozen? ⟨S, 3, none⟩ = false := by simp [World.frozen?, a3]
    have a4 := box_set a3 3 (.int .i64 0)
    simp only [List.setIfInBounds_toArray, List.set_cons_zero, List.set_cons_succ] at a4
    have hgZ := grown_set (o := 3) (v := .int .i64 0) (grown_set (o := 2) (v := .int .i64 sv) (grown_set (o := 1) (v := .int .i64 nv) (grown_set (o := 0) (v := .int .u8 2) hgR s0) s0) s0) s0
    have hRZ := (((hR2.far (o := 0) (v := .int .u8 2) n1 n3).far (o := 1) (v := .int .i64 nv) n1 n3).far (o := 2) (v := .int .i64 sv) n1 n3).far (o := 3) (v := .int .i64 0) n1 n3
    replace hgZ := Lib.hid hgZ
    replace hRZ := Lib.hid hRZ
    clear bA hgR hR2 a0 a1 a2 a3 hRES hRF
    go_wp2_with fail
    exact bodyPost_ret (v := .agg #[.int .u8 2, .int .i64 nv, .int .i64 sv, .int .i64 0]) (results_cell_row rfl _ _ S 46 _ (0, 0) _ rfl a4 Tryd.underlying46 rfl (by kernel_rfl)) rfl ⟨hgZ.out, ⟨_, rfl, rfl⟩, hRZ.out, hk2⟩
  by_cases q24 : l = 24
  · subst q24
    have hL := rest_get (k := 24) bM rfl
    obtain ⟨RF, hRF⟩ : ∃ r, ofOneP ts k1 = r := ⟨_, rfl⟩
    have hM := Lib.hid (rest82_P w1 hE.out hk1 hR1 bB)
    rw [hRF] at hM
    replace hRF := Lib.hid hRF
    clear t0 t1 t2 bM bB hR1
    go_wp2_with fail
    (with_reducible refine hM.out.mono ?_)
    rintro e w2 ⟨hg2, hT⟩
    clear hM hL
    replace hgR := grown_more hgR hg2
    replace bA := box_kept bA hg2 n1
    cases RF with
    | error j' =>
      obtain ⟨x, hx, rfl⟩ := hT
      replace hx := Lib.hid hx
      obtain rfl : RES = .error j' := by rw [← hRES.out]; unfold namedP; simp [hr1.out, hRF.out, Except.map]
      go_wp2_with fail
      exact ⟨rfl, hgR, x, hx.out, rfl⟩
    | ok y =>
    obtain ⟨⟨nv, sv⟩, k2⟩ := y
    obtain ⟨⟨u, rfl, rfl⟩, hR2, hk2⟩ := hT
    obtain rfl : RES = .ok ((3, nv, sv, 0), k2) := by rw [← hRES.out]; unfold namedP; simp [hr1.out, hRF.out, Except.map]
    have a0 := bA
    have c0 : (w2).cell? ⟨S, 0, none⟩ = some (.int .u8 0) := by simp [World.cell?, a0]
    have f0 : (w2).frozen? ⟨S, 0, none⟩ = false := by simp [World.frozen?, a0]
    have a1 := box_set a0 0 (.int .u8 3)
    simp only [List.setIfInBounds_toArray, List.set_cons_zero, List.set_cons_succ] at a1
    have c1 : ((w2).setCell ⟨S, 0, none⟩ (.int .u8 3)).cell? ⟨S, 1, none⟩ = some (.int .i64 0) := by simp [World.cell?, a1]
    have f1 : ((w2).setCell ⟨S, 0, none⟩ (.int .u8 3)).frozen? ⟨S, 1, none⟩ = false := by simp [World.frozen?, a1]
    have a2 := box_set a1 1 (.int .i64 nv)
    simp only [List.setIfInBounds_toArray, List.set_cons_zero, List.set_cons_succ] at a2
    have c2 : (((w2).setCell ⟨S, 0, none⟩ (.int .u8 3)).setCell ⟨S, 1, none⟩ (.int .i64 nv)).cell? ⟨S, 2, none⟩ = some (.int .i64 0) := by simp [World.cell?, a2]
    have f2 : (((w2).setCell ⟨S, 0, none⟩ (.int .u8 3)).setCell ⟨S, 1, none⟩ (.int .i64 nv)).frozen? ⟨S, 2, none⟩ = false := by simp [World.frozen?, a2]
    have a3 := box_set a2 2 (.int .i64 sv)
    simp only [List.setIfInBounds_toArray, List.set_cons_zero, List.set_cons_succ] at a3
    have c3 : ((((w2).setCell ⟨S, 0, none⟩ (.int .u8 3)).setCell ⟨S, 1, none⟩ (.int .i64 nv)).setCell ⟨S, 2, none⟩ (.int .i64 sv)).cell? ⟨S, 3, none⟩ = some (.int .i64 0) := by simp [World.cell?, a3]
    have f3 : ((((w2).setCell ⟨S, 0, none⟩ (.int .u8 3)).setCell ⟨S, 1, none⟩ (.int .i64 nv)).setCell ⟨S, 2, none⟩ (.int .i64 sv)).frozen? ⟨S, 3, none⟩ = false := by simp [World.frozen?, a3]
    have a4 := box_set a3 3 (.int .i64 0)
    simp only [List.setIfInBounds_toArray, List.set_cons_zero, List.set_cons_succ] at a4
    have hgZ := grown_set (o := 3) (v := .int .i64 0) (grown_set (o := 2) (v := .int .i64 sv) (grown_set (o := 1) (v := .int .i64 nv) (grown_set (o := 0) (v := .int .u8 3) hgR s0) s0) s0) s0
    have hRZ := (((hR2.far (o := 0) (v := .int .u8 3) n1 n3).far (o := 1) (v := .int .i64 nv) n1 n3).far (o := 2) (v := .int .i64 sv) n1 n3).far (o := 3) (v := .int .i64 0) n1 n3
    replace hgZ := Lib.hid hgZ
    replace hRZ := Lib.hid hRZ
    clear bA hgR hR2 a0 a1 a2 a3 hRES hRF
    go_wp2_with fail
    exact bodyPost_ret (v := .agg #[.int .u8 3, .int .i64 nv, .int .i64 sv, .int .i64 0]) (results_cell_row rfl _ _ S 46 _ (0, 0) _ rfl a4 Tryd.underlying46 rfl (by kernel_rfl)) rfl ⟨hgZ.out, ⟨_, rfl, rfl⟩, hRZ.out, hk2⟩
  by_cases q13 : l = 13
  · subst q13
    have hL := rest_get (k := 13) bM rfl
    obtain ⟨RF, hRF⟩ : ∃ r, ofOneP ts k1 = r := ⟨_, rfl⟩
    have hM := Lib.hid (rest83_P w1 hE.out hk1 hR1 bB)
    rw [hRF] at hM
    replace hRF := Lib.hid hRF
    clear t0 t1 t2 bM bB hR1
    go_wp2_with fail
    (with_reducible refine hM.out.mono ?_)
    rintro e w2 ⟨hg2, hT⟩
    clear hM hL
    replace hgR := grown_more hgR hg2
    replace bA := box_kept bA hg2 n1
    cases RF with
    | error j' =>
      obtain ⟨x, hx, rfl⟩ := hT
      replace hx := Lib.hid hx
      obtain rfl : RES = .error j' := by rw [← hRES.out]; unfold namedP; simp [hr1.out, hRF.out, Except.map]
      go_wp2_with fail
      exact ⟨rfl, hgR, x, hx.out, rfl⟩
    | ok y =>
    obtain ⟨⟨nv, sv⟩, k2⟩ := y
    obtain ⟨⟨u, rfl, rfl⟩, hR2, hk2⟩ := hT
    obtain rfl : RES = .ok ((4, nv, sv, 0), k2) := by rw [← hRES.out]; unfold namedP; simp [hr1.out, hRF.out, Except.map]
    have a0 := bA
    have c0 : (w2).cell? ⟨S, 0, none⟩ = some (.int .u8 0) := by simp [World.cell?, a0]
    have f0 : (w2).frozen? ⟨S, 0, none⟩ = false := by simp [World.frozen?, a0]
    have a1 := box_set a0 0 (.int .u8 4)
    simp only [List.setIfInBounds_toArray, List.set_cons_zero, List.set_cons_succ] at a1
    have c1 : ((w2).setCell ⟨S, 0, none⟩ (.int .u8 4)).cell? ⟨S, 1, none⟩ = some (.int .i64 0) := by simp [World.cell?, a1]
    have f1 : ((w2).setCell ⟨S, 0, none⟩ (.int .u8 4)).frozen? ⟨S, 1, none⟩ = false := by simp [World.frozen?, a1]
    have a2 := box_set a1 1 (.int .i64 nv)
    simp only [List.setIfInBounds_toArray, List.set_cons_zero, List.set_cons_succ] at a2
    have c2 : (((w2).setCell ⟨S, 0, none⟩ (.int .u8 4)).setCell ⟨S, 1, none⟩ (.int .i64 nv)).cell? ⟨S, 2, none⟩ = some (.int .i64 0) := by simp [World.cell?, a2]
    have f2 : (((w2).setCell ⟨S, 0, none⟩ (.int .u8 4)).setCell ⟨S, 1, none⟩ (.int .i64 nv)).frozen? ⟨S, 2, none⟩ = false := by simp [World.frozen?, a2]
    have a3 := box_set a2 2 (.int .i64 sv)
    simp only [List.setIfInBounds_toArray, List.set_cons_zero, List.set_cons_succ] at a3
    have c3 : ((((w2).setCell ⟨S, 0, none⟩ (.int .u8 4)).setCell ⟨S, 1, none⟩ (.int .i64 nv)).setCell ⟨S, 2, none⟩ (.int .i64 sv)).cell? ⟨S, 3, none⟩ = some (.int .i64 0) := by simp [World.cell?, a3]
    have f3 : ((((w2).setCell ⟨S, 0, none⟩ (.int .u8 4)).setCell ⟨S, 1, none⟩ (.int .i64 nv)).setCell ⟨S, 2, none⟩ (.int .i64 sv)).frozen? ⟨S, 3, none⟩ = false := by simp [World.frozen?, a3]
    have a4 := box_set a3 3 (.int .i64 0)
    simp only [List.setIfInBounds_toArray, List.set_cons_zero, List.set_cons_succ] at a4
    have hgZ := grown_set (o := 3) (v := .int .i64 0) (grown_set (o := 2) (v := .int .i64 sv) (grown_set (o := 1) (v := .int .i64 nv) (grown_set (o := 0) (v := .int .u8 4) hgR s0) s0) s0) s0
    have hRZ := (((hR2.far (o := 0) (v := .int .u8 4) n1 n3).far (o := 1) (v := .int .i64 nv) n1 n3).far (o := 2) (v := .int .i64 sv) n1 n3).far (o := 3) (v := .int .i64 0) n1 n3
    replace hgZ := Lib.hid hgZ
    replace hRZ := Lib.hid hRZ
    clear bA hgR hR2 a0 a1 a2 a3 hRES hRF
    go_wp2_with fail
    exact bodyPost_ret (v := .agg #[.int .u8 4, .int .i64 nv, .int .i64 sv, .int .i64 0]) (results_cell_row rfl _ _ S 46 _ (0, 0) _ rfl a4 Tryd.underlying46 rfl (by kernel_rfl)) rfl ⟨hgZ.out, ⟨_, rfl, rfl⟩, hRZ.out, hk2⟩
  by_cases q3 : l = 3
  · subst q3
    have hL := rest_get (k := 3) bM rfl
    obtain ⟨RF, hRF⟩ : ∃ r, ofTwoP ts k1 = r := ⟨_, rfl⟩
    have hM := Lib.hid (rest84_P w1 hE.out hk1 hR1 bB)
    rw [hRF] at hM
    replace hRF := Lib.hid hRF
    clear t0 t1 t2 bM bB hR1
    go_wp2_with fail
    (with_reducible refine hM.out.mono ?_)
    rintro e w2 ⟨hg2, hT⟩
    clear hM hL
    replace hgR := grown_more hgR hg2
    replace bA := box_kept bA hg2 n1
    cases RF with
    | error j' =>
      obtain ⟨x, hx, rfl⟩ := hT
      replace hx := Lib.hid hx
      obtain rfl : RES = .error j' := by rw [← hRES.out]; unfold namedP; simp [hr1.out, hRF.out, Except.map]
      go_wp2_with fail
      exact ⟨rfl, hgR, x, hx.out, rfl⟩
    | ok y =>
    obtain ⟨⟨nv, sv, rv⟩, k2⟩ := y
    obtain ⟨⟨u, rfl, rfl⟩, hR2, hk2⟩ := hT
    obtain rfl : RES = .ok ((5, nv, sv, rv), k2) := by rw [← hRES.out]; unfold namedP; simp [hr1.out, hRF.out, Except.map]
    have a0 := bA
    have c0 : (w2).cell? ⟨S, 0, none⟩ = some (.int .u8 0) := by simp [World.cell?, a0]
    have f0 : (w2).frozen? ⟨S, 0, none⟩ = false := by simp [World.frozen?, a0]
    have a1 := box_set a0 0 (.int .u8 5)
    simp only [List.setIfInBounds_toArray, List.set_cons_zero, List.set_cons_succ] at a1
    have c1 : ((w2).setCell ⟨S, 0, none⟩ (.int .u8 5)).cell? ⟨S, 1, none⟩ = some (.int .i64 0) := by simp [World.cell?, a1]
    have f1 : ((w2).setCell ⟨S, 0, none⟩ (.int .u8 5)).frozen? ⟨S, 1, none⟩ = false := by simp [World.frozen?, a1]
    have a2 := box_set a1 1 (.int .i64 nv)
    simp only [List.setIfInBounds_toArray, List.set_cons_zero, List.set_cons_succ] at a2
    have c2 : (((w2).setCell ⟨S, 0, none⟩ (.int .u8 5)).setCell ⟨S, 1, none⟩ (.int .i64 nv)).cell? ⟨S, 2, none⟩ = some (.int .i64 0) := by simp [World.cell?, a2]
    have f2 : (((w2).setCell ⟨S, 0, none⟩ (.int .u8 5)).setCell ⟨S, 1, none⟩ (.int .i64 nv)).frozen? ⟨S, 2, none⟩ = false := by simp [World.frozen?, a2]
    have a3 := box_set a2 2 (.int .i64 sv)
    simp only [List.setIfInBounds_toArray, List.set_cons_zero, List.set_cons_succ] at a3
    have c3 : ((((w2).setCell ⟨S, 0, none⟩ (.int .u8 5)).setCell ⟨S, 1, none⟩ (.int .i64 nv)).setCell ⟨S, 2, none⟩ (.int .i64 sv)).cell? ⟨S, 3, none⟩ = some (.int .i64 0) := by simp [World.cell?, a3]
    have f3 : ((((w2).setCell ⟨S, 0, none⟩ (.int .u8 5)).setCell ⟨S, 1, none⟩ (.int .i64 nv)).setCell ⟨S, 2, none⟩ (.int .i64 sv)).frozen? ⟨S, 3, none⟩ = false := by simp [World.frozen?, a3]
    have a4 := box_set a3 3 (.int .i64 rv)
    simp only [List.setIfInBounds_toArray, List.set_cons_zero, List.set_cons_succ] at a4
    have hgZ := grown_set (o := 3) (v := .int .i64 rv) (grown_set (o := 2) (v := .int .i64 sv) (grown_set (o := 1) (v := .int .i64 nv) (grown_set (o := 0) (v := .int .u8 5) hgR s0) s0) s0) s0
    have hRZ := (((hR2.far (o := 0) (v := .int .u8 5) n1 n3).far (o := 1) (v := .int .i64 nv) n1 n3).far (o := 2) (v := .int .i64 sv) n1 n3).far (o := 3) (v := .int .i64 rv) n1 n3
    replace hgZ := Lib.hid hgZ
    replace hRZ := Lib.hid hRZ
    clear bA hgR hR2 a0 a1 a2 a3 hRES hRF
    go_wp2_with fail
    exact bodyPost_ret (v := .agg #[.int .u8 5, .int .i64 nv, .int .i64 sv, .int .i64 rv]) (results_cell_row rfl _ _ S 46 _ (0, 0) _ rfl a4 Tryd.underlying46 rfl (by kernel_rfl)) rfl ⟨hgZ.out, ⟨_, rfl, rfl⟩, hRZ.out, hk2⟩
  by_cases q2 : l = 2
  · subst q2
    have hL := rest_get (k := 2) bM rfl
    obtain ⟨RF, hRF⟩ : ∃ r, ofTwoP ts k1 = r := ⟨_, rfl⟩
    have hM := Lib.hid (rest86_P w1 hE.out hk1 hR1 bB)
    rw [hRF] at hM
    replace hRF := Lib.hid hRF
    clear t0 t1 t2 bM bB hR1
    go_wp2_with fail
    (with_reducible refine hM.out.mono ?_)
    rintro e w2 ⟨hg2, hT⟩
    clear hM hL
    replace hgR := grown_more hgR hg2
    replace bA := box_kept bA hg2 n1
    cases RF with
    | error j' =>
      obtain ⟨x, hx, rfl⟩ := hT
      replace hx := Lib.hid hx
      obtain rfl : RES = .error j' := by rw [← hRES.out]; unfold namedP; simp [hr1.out, hRF.out, Except.map]
      go_wp2_with fail
      exact ⟨rfl, hgR, x, hx.out, rfl⟩
    | ok y =>
    obtain ⟨⟨nv, sv, rv⟩, k2⟩ := y
    obtain ⟨⟨u, rfl, rfl⟩, hR2, hk2⟩ := hT
    obtain rfl : RES = .ok ((6, nv, sv, rv), k2) := by rw [← hRES.out]; unfold namedP; simp [hr1.out, hRF.out, Except.map]
    have a0 := bA
    have c0 : (w2).cell? ⟨S, 0, none⟩ = some (.int .u8 0) := by simp [World.cell?, a0]
    have f0 : (w2).frozen? ⟨S, 0, none⟩ = false := by simp [World.frozen?, a0]
    have a1 := box_set a0 0 (.int .u8 6)
    simp only [List.setIfInBounds_toArray, List.set_cons_zero, List.set_cons_succ] at a1
    have c1 : ((w2).setCell ⟨S, 0, none⟩ (.int .u8 6)).cell? ⟨S, 1, none⟩ = some (.int .i64 0) := by simp [World.cell?, a1]
    have f1 : ((w2).setCell ⟨S, 0, none⟩ (.int .u8 6)).frozen? ⟨S, 1, none⟩ = false := by simp [World.frozen?, a1]
    have a2 := box_set a1 1 (.int .i64 nv)
    simp only [List.setIfInBounds_toArray, List.set_cons_zero, List.set_cons_succ] at a2
    have c2 : (((w2).setCell ⟨S, 0, none⟩ (.int .u8 6)).setCell ⟨S, 1, none⟩ (.int .i64 nv)).cell? ⟨S, 2, none⟩ = some (.int .i64 0) := by simp [World.cell?, a2]
    have f2 : (((w2).setCell ⟨S, 0, none⟩ (.int .u8 6)).setCell ⟨S, 1, none⟩ (.int .i64 nv)).frozen? ⟨S, 2, none⟩ = false := by simp [World.frozen?, a2]
    have a3 := box_set a2 2 (.int .i64 sv)
    simp only [List.setIfInBounds_toArray, List.set_cons_zero, List.set_cons_succ] at a3
    have c3 : ((((w2).setCell ⟨S, 0, none⟩ (.int .u8 6)).setCell ⟨S, 1, none⟩ (.int .i64 nv)).setCell ⟨S, 2, none⟩ (.int .i64 sv)).cell? ⟨S, 3, none⟩ = some (.int .i64 0) := by simp [World.cell?, a3]
    have f3 : ((((w2).setCell ⟨S, 0, none⟩ (.int .u8 6)).setCell ⟨S, 1, none⟩ (.int .i64 nv)).setCell ⟨S, 2, none⟩ (.int .i64 sv)).frozen? ⟨S, 3, none⟩ = false := by simp [World.frozen?, a3]
    have a4 := box_set a3 3 (.int .i64 rv)
    simp only [List.setIfInBounds_toArray, List.set_cons_zero, List.set_cons_succ] at a4
    have hgZ := grown_set (o := 3) (v := .int .i64 rv) (grown_set (o := 2) (v := .int .i64 sv) (grown_set (o := 1) (v := .int .i64 nv) (grown_set (o := 0) (v := .int .u8 6) hgR s0) s0) s0) s0
    have hRZ := (((hR2.far (o := 0) (v := .int .u8 6) n1 n3).far (o := 1) (v := .int .i64 nv) n1 n3).far (o := 2) (v := .int .i64 sv) n1 n3).far (o := 3) (v := .int .i64 rv) n1 n3
    replace hgZ := Lib.hid hgZ
    replace hRZ := Lib.hid hRZ
    clear bA hgR hR2 a0 a1 a2 a3 hRES hRF
    go_wp2_with fail
    exact bodyPost_ret (v := .agg #[.int .u8 6, .int .i64 nv, .int .i64 sv, .int .i64 rv]) (results_cell_row rfl _ _ S 46 _ (0, 0) _ rfl a4 Tryd.underlying46 rfl (by kernel_rfl)) rfl ⟨hgZ.out, ⟨_, rfl, rfl⟩, hRZ.out, hk2⟩
  have hL := rest_get0 bM (rest_no q19 q23 q24 q13 q3 q2)
  obtain rfl : RES = .error k := by rw [← hRES.out]; unfold namedP; simp only [hr1.out]; rw [if_neg q19, if_neg q23, if_neg q24, if_neg q13, if_neg q3, if_neg q2]
  clear bM bB hR1 hRES hr1 q19 q23 q24 q13 q3 q2
  go_wp2_with fail
  exact ⟨rfl, hgR, x, hx.out, rfl⟩
end Go.Proofs.YtkedifhlkiffoaaDoor
