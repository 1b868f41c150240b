/-
  The standing examples of the laws of parse.
-/
import Derived.Test.YtkedifhlkiffoaaDoorPN
import Derived.Test.YtkedifhlkiffoaaDoorR
namespace Go.Proofs.YtkedifhlkiffoaaDoor
open Go.ChangeShapes Go.WideShapes Go.ChangeAt Go.RowKit
open Tree (Tm Cp Sp)
set_option linter.unusedVariables false
set_option linter.unusedSimpArgs false
attribute [local go_sem] Oper.semAt_some
/-- 0a;1b{1,2}[x(b)>x(a)+3],2c within 50 -/
def txA : Bs := [48, 97, 59, 49, 98, 123, 49, 44, 50, 125, 91, 120, 40, 98, 41, 62, 120, 40, 97, 41, 43, 51, 93, 44, 50, 99, 32, 119, 105, 116, 104, 105, 110, 32, 53, 48]
def ptA : List Sp := [⟨false, 0, 1, 1, false, []⟩, ⟨false, 1, 1, 2, false, [⟨5, ⟨2, 0, 1, 0⟩, ⟨2, 3, 0, 0⟩⟩]⟩, ⟨false, 2, 1, 1, true, []⟩]
set_option maxRecDepth 100000 in
theorem prA : parseL txA = .ok (ptA, 50) := by kernel_rfl
/-- 0a;1a within 5 -/
def txB : Bs := [48, 97, 59, 49, 97, 32, 119, 105, 116, 104, 105, 110, 32, 53]
set_option maxRecDepth 100000 in
theorem prB : parseL txB = .error (4, 90) := by kernel_rfl
/-- !5a[d(a,c)-4<=-7&t(a)!=9]within 0 -/
def txD : Bs := [33, 53, 97, 91, 100, 40, 97, 44, 99, 41, 45, 52, 60, 61, 45, 55, 38, 116, 40, 97, 41, 33, 61, 57, 93, 119, 105, 116, 104, 105, 110, 32, 48]
def ptD : List Sp := [⟨true, 5, 1, 1, false, [⟨2, ⟨5, -4, 0, 2⟩, ⟨0, -7, 0, 0⟩⟩, ⟨4, ⟨1, 0, 0, 0⟩, ⟨0, 9, 0, 0⟩⟩]⟩]
set_option maxRecDepth 100000 in
theorem prD : parseL txD = .ok (ptD, 0) := by kernel_rfl
def txE : Bs := [48, 97]
set_option maxRecDepth 100000 in
theorem prE : parseL txE = .error (2, 90) := by kernel_rfl
def txF : Bs := [48, 97, 32, 119, 105, 116, 104, 105, 110, 32, 49]
set_option maxRecDepth 100000 in
theorem prF : okE (parseL txF) = true := by kernel_rfl
set_option maxRecDepth 100000 in
theorem prG : okE (parseL []) = false := by kernel_rfl
theorem OwnP.sps {w : World} {b : Nat} {v : Value} {L : List (Sp × Value)} (h : OwnP w b v L) : Tree.SpsL w v L := by
  obtain ⟨a, c, e, hc⟩ := Tree.cells_of_row h.1
  exact ⟨⟨a, c, e, hc⟩, fun x hx => Tree.OwnCps.cps (h.2 x hx)⟩
theorem parse_ok {l : Bs} {p : List Sp × Int} (w : World) (ho : OpsAt w) (h : parseL l = .ok p) :
    Calls Tryd.prog 14 #[S l] w fun e w' => Below w.heap.size w w' ∧ ∃ v L, e = .returned (.tuple #[Tree.ptV v p.2, .int .i64 0, .int .i64 0]) ∧ Tree.SpsL w' v L ∧ L.map (·.1) = p.1 := by
  refine (parse_L l w ho).mono ?_
  rintro e w' ⟨hb, hm⟩
  rw [h] at hm
  obtain ⟨v, L, e1, e2, e3⟩ := hm
  exact ⟨hb, v, L, e1, e2.sps, e3⟩
theorem parse_no {l : Bs} {q : Int × Int} (w : World) (ho : OpsAt w) (h : parseL l = .error q) :
    Calls Tryd.prog 14 #[S l] w fun e w' => Below w.heap.size w w' ∧ e = .returned (.tuple #[.agg #[.slice none 0 0, .int .i64 0], .int .i64 q.1, .int .i64 q.2]) := by
  refine (parse_L l w ho).mono ?_
  rintro e w' ⟨hb, hm⟩
  rw [h] at hm
  exact ⟨hb, hm⟩
/-- The cells of a row of its own, where there are any. -/
theorem own_cells {w : World} {b e sz n : Nat} {v : Value} {xs : List Value} (h : w.ownsRow b e sz v n xs) (h0 : 0 < n) : ∃ g c, v = .slice (some ⟨g, 0, none⟩) n c ∧ ∀ j u, xs[j]? = some u → w.cell? ⟨g, j, none⟩ = some u := by
  rcases h.2 with ⟨-, rfl⟩ | ⟨g, cap, cur, e1, -⟩
  · cases h0
  · refine ⟨g, cap, e1, fun j u hj => ?_⟩
    have := h.cells (g := g) (by rw [e1]; rfl) j u hj
    rw [show (⟨g, 0, none⟩ : Addr).add j = ⟨g, j, none⟩ by unfold Addr.add; split <;> simp_all] at this
    exact this
/-- What is read of the third example's pattern. -/
def WkD (g g2 c2 : Nat) (X : World) : Prop :=
  (X.cell? ⟨g, 0, none⟩ = some (.bool true) ∧ X.cell? ⟨g, 1, none⟩ = some (.int .i64 5) ∧ X.cell? ⟨g, 5, none⟩ = some (.slice (some ⟨g2, 0, none⟩) 2 c2)) ∧
  (X.cell? ⟨g2, 0, none⟩ = some (.int .u8 2) ∧ X.cell? ⟨g2, 1, none⟩ = some (.int .u8 5) ∧ X.cell? ⟨g2, 2, none⟩ = some (.int .i64 (-4)) ∧ X.cell? ⟨g2, 3, none⟩ = some (.int .i64 0) ∧ X.cell? ⟨g2, 4, none⟩ = some (.int .i64 2) ∧
    X.cell? ⟨g2, 5, none⟩ = some (.int .u8 0) ∧ X.cell? ⟨g2, 6, none⟩ = some (.int .i64 (-7)) ∧ X.cell? ⟨g2, 7, none⟩ = some (.int .i64 0) ∧ X.cell? ⟨g2, 8, none⟩ = some (.int .i64 0)) ∧
  (X.cell? ⟨g2, 9, none⟩ = some (.int .u8 4) ∧ X.cell? ⟨g2, 10, none⟩ = some (.int .u8 1) ∧ X.cell? ⟨g2, 11, none⟩ = some (.int .i64 0) ∧ X.cell? ⟨g2, 12, none⟩ = some (.int .i64 0) ∧ X.cell? ⟨g2, 13, none⟩ = some (.int .i64 0) ∧
    X.cell? ⟨g2, 14, none⟩ = some (.int .u8 0) ∧ X.cell? ⟨g2, 15, none⟩ = some (.int .i64 9) ∧ X.cell? ⟨g2, 16, none⟩ = some (.int .i64 0) ∧ X.cell? ⟨g2, 17, none⟩ = some (.int .i64 0))
theorem keep_cell {X Y : World} {a : Addr} {v : Value} (h : X.cell? a = some v) (hb : Below X.heap.size X Y) : Y.cell? a = some v := (hb.cell (World.block_lt_of_cell? X a h)).trans h
theorem WkD.later {g g2 c2 : Nat} {X Y : World} (h : WkD g g2 c2 X) (hb : Below X.heap.size X Y) : WkD g g2 c2 Y := by
  obtain ⟨⟨h1, h2, h3⟩, ⟨a0, a1, a2, a3, a4, a5, a6, a7, a8⟩, ⟨b0, b1, b2, b3, b4, b5, b6, b7, b8⟩⟩ := h
  exact ⟨⟨keep_cell h1 hb, keep_cell h2 hb, keep_cell h3 hb⟩, ⟨keep_cell a0 hb, keep_cell a1 hb, keep_cell a2 hb, keep_cell a3 hb, keep_cell a4 hb, keep_cell a5 hb, keep_cell a6 hb, keep_cell a7 hb, keep_cell a8 hb⟩, ⟨keep_cell b0 hb, keep_cell b1 hb, keep_cell b2 hb, keep_cell b3 hb, keep_cell b4 hb, keep_cell b5 hb, keep_cell b6 hb, keep_cell b7 hb, keep_cell b8 hb⟩⟩
theorem wk_d (w : World) (ho : OpsAt w) : Calls Tryd.prog 14 #[S txD] w fun e w' => ∃ g c g2 c2, Below w.heap.size w w' ∧ e = .returned (.tuple #[.agg #[.slice (some ⟨g, 0, none⟩) 1 c, .int .i64 0], .int .i64 0, .int .i64 0]) ∧ WkD g g2 c2 w' := by
  refine (parse_L txD w ho).mono ?_
  rintro e w' ⟨hb, hm⟩
  rw [prD] at hm
  obtain ⟨v, L, rfl, hO, hL⟩ := hm
  obtain ⟨x, rfl⟩ : ∃ x, L = [x] := List.length_eq_one_iff.1 (by have := congrArg List.length hL; simpa [ptD] using this)
  obtain ⟨s, vs⟩ := x
  simp only [List.map_cons, List.map_nil, ptD, List.cons.injEq, and_true] at hL
  subst hL
  obtain ⟨g, c, rfl, hc⟩ := own_cells hO.1 (by simp)
  obtain ⟨g2, c2, hv, hd⟩ := own_cells (hO.2 _ (List.mem_singleton.2 rfl)) (by simp)
  simp only at hv
  subst hv
  refine ⟨g, c, g2, c2, hb, rfl, ⟨hc 0 _ rfl, hc 1 _ rfl, hc 5 _ rfl⟩, ⟨hd 0 _ rfl, hd 1 _ rfl, hd 2 _ rfl, hd 3 _ rfl, hd 4 _ rfl, hd 5 _ rfl, hd 6 _ rfl, hd 7 _ rfl, hd 8 _ rfl⟩, ⟨hd 9 _ rfl, hd 10 _ rfl, hd 11 _ rfl, hd 12 _ rfl, hd 13 _ rfl, hd 14 _ rfl, hd 15 _ rfl, hd 16 _ rfl, hd 17 _ rfl⟩⟩
theorem three_any (w : World) : Calls Tryd.prog 37 #[] w fun e w' => ∃ v L, e = .returned (Tree.ptV v 50) ∧ Tree.SpsL w' v L ∧ L.map (·.1) = ptA ∧ Below w.heap.size w w' := by
  go_enter Tryd.func37, Tryd.ntmps37
  have hA : (((w.alloc (.cells #[.slice (some ⟨w.heap.size + 1 + 1, 0, none⟩) 3 3, .int .i64 50] 25)).alloc (.cells #[.int .u8 5, .int .u8 2, .int .i64 0, .int .i64 1, .int .i64 0, .int .u8 2, .int .i64 3, .int .i64 0, .int .i64 0] 48)).alloc (.cells #[.bool false, .int .i64 0, .int .i64 1, .int .i64 1, .bool false, .slice none 0 0, .bool false, .int .i64 1, .int .i64 1, .int .i64 2, .bool false, .slice (some ⟨w.heap.size + 1, 0, none⟩) 1 1, .bool false, .int .i64 2, .int .i64 1, .int .i64 1, .bool true, .slice none 0 0] 39)).heap[w.heap.size]? = some (.cells #[.slice (some ⟨w.heap.size + 1 + 1, 0, none⟩) 3 3, .int .i64 50] 25 (0, 0)) :=
    (((World.grownBy_alloc (w.alloc (.cells #[.slice (some ⟨w.heap.size + 1 + 1, 0, none⟩) 3 3, .int .i64 50] 25)) (.cells #[.int .u8 5, .int .u8 2, .int .i64 0, .int .i64 1, .int .i64 0, .int .u8 2, .int .i64 3, .int .i64 0, .int .i64 0] 48) none).trans (World.grownBy_alloc _ (.cells #[.bool false, .int .i64 0, .int .i64 1, .int .i64 1, .bool false, .slice none 0 0, .bool false, .int .i64 1, .int .i64 1, .int .i64 2, .bool false, .slice (some ⟨w.heap.size + 1, 0, none⟩) 1 1, .bool false, .int .i64 2, .int .i64 1, .int .i64 1, .bool true, .slice none 0 0] 39) none)).block _ (by simp) (by simp)).trans (World.alloc_heap_new w _)
  have hB : ∀ j u, [Value.int .u8 5, .int .u8 2, .int .i64 0, .int .i64 1, .int .i64 0, .int .u8 2, .int .i64 3, .int .i64 0, .int .i64 0][j]? = some u → (((w.alloc (.cells #[.slice (some ⟨w.heap.size + 1 + 1, 0, none⟩) 3 3, .int .i64 50] 25)).alloc (.cells #[.int .u8 5, .int .u8 2, .int .i64 0, .int .i64 1, .int .i64 0, .int .u8 2, .int .i64 3, .int .i64 0, .int .i64 0] 48)).alloc (.cells #[.bool false, .int .i64 0, .int .i64 1, .int .i64 1, .bool false, .slice none 0 0, .bool false, .int .i64 1, .int .i64 1, .int .i64 2, .bool false, .slice (some ⟨w.heap.size + 1, 0, none⟩) 1 1, .bool false, .int .i64 2, .int .i64 1, .int .i64 1, .bool true, .slice none 0 0] 39)).cell? ⟨w.heap.size + 1, 0 + j, none⟩ = some u := by
    intro j u hj
    have := (World.grownBy_alloc ((w.alloc (.cells #[.slice (some ⟨w.heap.size + 1 + 1, 0, none⟩) 3 3, .int .i64 50] 25)).alloc (.cells #[.int .u8 5, .int .u8 2, .int .i64 0, .int .i64 1, .int .i64 0, .int .u8 2, .int .i64 3, .int .i64 0, .int .i64 0] 48)) (.cells #[.bool false, .int .i64 0, .int .i64 1, .int .i64 1, .bool false, .slice none 0 0, .bool false, .int .i64 1, .int .i64 1, .int .i64 2, .bool false, .slice (some ⟨w.heap.size + 1, 0, none⟩) 1 1, .bool false, .int .i64 2, .int .i64 1, .int .i64 1, .bool true, .slice none 0 0] 39) none).block (w.heap.size + 1) (by simp) (by simp)
    have h2 := World.alloc_heap_new (w.alloc (.cells #[.slice (some ⟨w.heap.size + 1 + 1, 0, none⟩) 3 3, .int .i64 50] 25)) (.cells #[.int .u8 5, .int .u8 2, .int .i64 0, .int .i64 1, .int .i64 0, .int .u8 2, .int .i64 3, .int .i64 0, .int .i64 0] 48)
    rw [World.size_alloc] at h2
    simp only [World.cell?, this, h2, Nat.zero_add]
    simpa using hj
  have hC : ∀ j u, [Value.bool false, .int .i64 0, .int .i64 1, .int .i64 1, .bool false, .slice none 0 0, .bool false, .int .i64 1, .int .i64 1, .int .i64 2, .bool false, .slice (some ⟨w.heap.size + 1, 0, none⟩) 1 1, .bool false, .int .i64 2, .int .i64 1, .int .i64 1, .bool true, .slice none 0 0][j]? = some u → (((w.alloc (.cells #[.slice (some ⟨w.heap.size + 1 + 1, 0, none⟩) 3 3, .int .i64 50] 25)).alloc (.cells #[.int .u8 5, .int .u8 2, .int .i64 0, .int .i64 1, .int .i64 0, .int .u8 2, .int .i64 3, .int .i64 0, .int .i64 0] 48)).alloc (.cells #[.bool false, .int .i64 0, .int .i64 1, .int .i64 1, .bool false, .slice none 0 0, .bool false, .int .i64 1, .int .i64 1, .int .i64 2, .bool false, .slice (some ⟨w.heap.size + 1, 0, none⟩) 1 1, .bool false, .int .i64 2, .int .i64 1, .int .i64 1, .bool true, .slice none 0 0] 39)).cell? ⟨w.heap.size + 1 + 1, 0 + j, none⟩ = some u := by
    intro j u hj
    have h2 := World.alloc_heap_new ((w.alloc (.cells #[.slice (some ⟨w.heap.size + 1 + 1, 0, none⟩) 3 3, .int .i64 50] 25)).alloc (.cells #[.int .u8 5, .int .u8 2, .int .i64 0, .int .i64 1, .int .i64 0, .int .u8 2, .int .i64 3, .int .i64 0, .int .i64 0] 48)) (.cells #[.bool false, .int .i64 0, .int .i64 1, .int .i64 1, .bool false, .slice none 0 0, .bool false, .int .i64 1, .int .i64 1, .int .i64 2, .bool false, .slice (some ⟨w.heap.size + 1, 0, none⟩) 1 1, .bool false, .int .i64 2, .int .i64 1, .int .i64 1, .bool true, .slice none 0 0] 39)
    rw [World.size_alloc, World.size_alloc] at h2
    simp only [World.cell?, h2, Nat.zero_add]
    simpa using hj
  have hb : Below w.heap.size w (((w.alloc (.cells #[.slice (some ⟨w.heap.size + 1 + 1, 0, none⟩) 3 3, .int .i64 50] 25)).alloc (.cells #[.int .u8 5, .int .u8 2, .int .i64 0, .int .i64 1, .int .i64 0, .int .u8 2, .int .i64 3, .int .i64 0, .int .i64 0] 48)).alloc (.cells #[.bool false, .int .i64 0, .int .i64 1, .int .i64 1, .bool false, .slice none 0 0, .bool false, .int .i64 1, .int .i64 1, .int .i64 2, .bool false, .slice (some ⟨w.heap.size + 1, 0, none⟩) 1 1, .bool false, .int .i64 2, .int .i64 1, .int .i64 1, .bool true, .slice none 0 0] 39)) := (((Below.refl _ w).alloc (Nat.le_refl _) _).alloc (by simp) _).alloc (by simp; omega) _
  go_wp2_with fail
  generalize (((w.alloc (.cells #[.slice (some ⟨w.heap.size + 1 + 1, 0, none⟩) 3 3, .int .i64 50] 25)).alloc (.cells #[.int .u8 5, .int .u8 2, .int .i64 0, .int .i64 1, .int .i64 0, .int .u8 2, .int .i64 3, .int .i64 0, .int .i64 0] 48)).alloc (.cells #[.bool false, .int .i64 0, .int .i64 1, .int .i64 1, .bool false, .slice none 0 0, .bool false, .int .i64 1, .int .i64 1, .int .i64 2, .bool false, .slice (some ⟨w.heap.size + 1, 0, none⟩) 1 1, .bool false, .int .i64 2, .int .i64 1, .int .i64 1, .bool true, .slice none 0 0] 39)) = W at *
  exact bodyPost_ret (v := .agg #[.slice (some ⟨w.heap.size + 1 + 1, 0, none⟩) 3 3, .int .i64 50]) (results_cell_row rfl _ _ w.heap.size 25 _ (0, 0) _ rfl hA Tryd.underlying25 rfl (by kernel_rfl)) rfl
    ⟨_, [(⟨false, 0, 1, 1, false, []⟩, .slice none 0 0), (⟨false, 1, 1, 2, false, [⟨5, ⟨2, 0, 1, 0⟩, ⟨2, 3, 0, 0⟩⟩]⟩, .slice (some ⟨w.heap.size + 1, 0, none⟩) 1 1), (⟨false, 2, 1, 1, true, []⟩, .slice none 0 0)], rfl,
      ⟨⟨_, _, rfl, .inr ⟨_, _, rfl, hC⟩⟩, fun x hx => by
        simp only [List.mem_cons, List.not_mem_nil, or_false] at hx
        rcases hx with rfl | rfl | rfl
        · exact ⟨_, _, rfl, .inl rfl⟩
        · exact ⟨_, _, rfl, .inr ⟨_, _, rfl, hB⟩⟩
        · exact ⟨_, _, rfl, .inl rfl⟩⟩, rfl, hb⟩
end Go.Proofs.YtkedifhlkiffoaaDoor
