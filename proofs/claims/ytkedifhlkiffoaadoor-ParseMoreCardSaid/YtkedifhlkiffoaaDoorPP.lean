/-
  wakes, the laws' own first words on parse: it tells true.
-/
import Derived.Test.YtkedifhlkiffoaaDoorPO
import Derived.Deep.RegionHeld3
namespace Go.Proofs.YtkedifhlkiffoaaDoor
open Go.ChangeShapes Go.WideShapes Go.ChangeAt Go.RowKit
open Tree (Tm Cp Sp)
set_option linter.unusedVariables false
set_option linter.unusedSimpArgs false
attribute [local go_sem] Oper.semAt_some
theorem wk_a (w : World) (ho : OpsAt w) : Calls Tryd.prog 14 #[S txA] w fun e w' => ∃ a c L, Below w.heap.size w w' ∧ e = .returned (.tuple #[.agg #[.slice a 3 c, .int .i64 50], .int .i64 0, .int .i64 0]) ∧ Tree.SpsL w' (.slice a 3 c) L ∧ L.map (·.1) = ptA := by
  refine (parse_ok w ho prA).mono ?_
  rintro e w' ⟨hb, v, L, rfl, hS, hL⟩
  obtain ⟨a, c, rfl⟩ := hS.lit (n := 3) (by have := congrArg List.length hL; simpa [ptA] using this)
  exact ⟨a, c, L, hb, rfl, hS, hL⟩
theorem short_of {L : List (Sp × Value)} {ss : List Sp} (h : L.map (·.1) = ss) (hS : Tree.Small ss) : Tree.Short L := Tree.Small.short (by rw [h]; exact hS)
theorem small_A : Tree.Small ptA := ⟨by decide, by decide⟩
/-- What stays as it is. -/
structure WkK (w : World) (a3 : Option Addr) (c3 g c g2 c2 : Nat) (P1 P2 P3 : Nat) (L : List (Sp × Value)) (X : World) : Prop where
  ops : OpsAt X
  low : Below w.heap.size w X
  p1 : X.cell? ⟨P1, 0, none⟩ = some (.slice a3 3 c3)
  p1w : X.cell? ⟨P1, 1, none⟩ = some (.int .i64 50)
  p2 : X.cell? ⟨P2, 0, none⟩ = some (.slice none 0 0)
  p3 : X.cell? ⟨P3, 0, none⟩ = some (.slice (some ⟨g, 0, none⟩) 1 c)
  sps : Tree.SpsL X (.slice a3 3 c3) L
  d : WkD g g2 c2 X
theorem WkK.later {w : World} {a3 : Option Addr} {c3 g c g2 c2 : Nat} {P1 P2 P3 : Nat} {L : List (Sp × Value)} {X Y : World} (h : WkK w a3 c3 g c g2 c2 P1 P2 P3 L X) (hb : Below X.heap.size X Y) : WkK w a3 c3 g c g2 c2 P1 P2 P3 L Y :=
  ⟨h.ops.later hb, h.low.trans (hb.mono h.low.size), keep_cell h.p1 hb, keep_cell h.p1w hb, keep_cell h.p2 hb, keep_cell h.p3 hb, h.sps.later hb, h.d.later hb⟩
theorem WkK.all {w : World} {a3 : Option Addr} {c3 g c g2 c2 : Nat} {P1 P2 P3 : Nat} {L : List (Sp × Value)} {X : World} (h : WkK w a3 c3 g c g2 c2 P1 P2 P3 L X) :
    (X.cell? ⟨P1, 0, none⟩ = some (.slice a3 3 c3) ∧ X.cell? ⟨P1, 1, none⟩ = some (.int .i64 50) ∧ X.cell? ⟨P2, 0, none⟩ = some (.slice none 0 0) ∧ X.cell? ⟨P3, 0, none⟩ = some (.slice (some ⟨g, 0, none⟩) 1 c) ∧ X.cell? ⟨g, 0, none⟩ = some (.bool true) ∧ X.cell? ⟨g, 1, none⟩ = some (.int .i64 5) ∧ X.cell? ⟨g, 5, none⟩ = some (.slice (some ⟨g2, 0, none⟩) 2 c2) ∧ X.cell? ⟨g2, 0, none⟩ = some (.int .u8 2) ∧ X.cell? ⟨g2, 1, none⟩ = some (.int .u8 5) ∧ X.cell? ⟨g2, 2, none⟩ = some (.int .i64 (-4)) ∧ X.cell? ⟨g2, 3, none⟩ = some (.int .i64 0) ∧ X.cell? ⟨g2, 4, none⟩ = some (.int .i64 2) ∧ X.cell? ⟨g2, 5, none⟩ = some (.int .u8 0) ∧ X.cell? ⟨g2, 6, none⟩ = some (.int .i64 (-7)) ∧ X.cell? ⟨g2, 7, none⟩ = some (.int .i64 0) ∧ X.cell? ⟨g2, 8, none⟩ = some (.int .i64 0) ∧ X.cell? ⟨g2, 9, none⟩ = some (.int .u8 4) ∧ X.cell? ⟨g2, 10, none⟩ = some (.int .u8 1) ∧ X.cell? ⟨g2, 11, none⟩ = some (.int .i64 0) ∧ X.cell? ⟨g2, 12, none⟩ = some (.int .i64 0) ∧ X.cell? ⟨g2, 13, none⟩ = some (.int .i64 0) ∧ X.cell? ⟨g2, 14, none⟩ = some (.int .u8 0) ∧ X.cell? ⟨g2, 15, none⟩ = some (.int .i64 9) ∧ X.cell? ⟨g2, 16, none⟩ = some (.int .i64 0) ∧ X.cell? ⟨g2, 17, none⟩ = some (.int .i64 0)) ∧ WkK w a3 c3 g c g2 c2 P1 P2 P3 L X :=
  ⟨⟨h.p1, h.p1w, h.p2, h.p3, h.d.1.1, h.d.1.2.1, h.d.1.2.2, h.d.2.1.1, h.d.2.1.2.1, h.d.2.1.2.2.1, h.d.2.1.2.2.2.1, h.d.2.1.2.2.2.2.1, h.d.2.1.2.2.2.2.2.1, h.d.2.1.2.2.2.2.2.2.1, h.d.2.1.2.2.2.2.2.2.2.1, h.d.2.1.2.2.2.2.2.2.2.2, h.d.2.2.1, h.d.2.2.2.1, h.d.2.2.2.2.1, h.d.2.2.2.2.2.1, h.d.2.2.2.2.2.2.1, h.d.2.2.2.2.2.2.2.1, h.d.2.2.2.2.2.2.2.2.1, h.d.2.2.2.2.2.2.2.2.2.1, h.d.2.2.2.2.2.2.2.2.2.2⟩, h⟩
set_option maxRecDepth 100000 in
set_option maxHeartbeats 8000000 in
theorem wakes_any9 (w : World) (ho : OpsAt w) : Calls Tryd.prog 13 #[] w fun e w' => e = .returned (.bool true) ∧ Below w.heap.size w w' := by
  have M1 := Lib.hid (wk_a w ho)
  have M2 := Lib.hid (fun (X : World) (h : OpsAt X) => parse_no X h prB)
  have M3 := Lib.hid (fun (X : World) (h : OpsAt X) => wk_d X h)
  have M4 := Lib.hid (fun (X : World) (h : OpsAt X) => parse_no X h prE)
  have M5 := Lib.hid (fun (X : World) (h : OpsAt X) => right_L txF X h)
  have M6 := Lib.hid (fun (X : World) (h : OpsAt X) => right_L [] X h)
  unfold S txA at M1
  unfold S txB at M2
  unfold S txD at M3
  unfold S txE at M4
  rw [prF] at M5
  rw [prG] at M6
  unfold S txF at M5
  unfold S at M6
  go_enter Tryd.func13, Tryd.ntmps13
  go_wp2_with fail
  (with_reducible refine M1.out.mono ?_)
  rintro e w1 ⟨a3, c3, L, hb1, rfl, hS, hL⟩
  clear M1
  have k1 : Below w1.heap.size w1 (w1.alloc (.cells #[.slice a3 3 c3, .int .i64 50] 25)) := (Below.refl _ w1).alloc (Nat.le_refl _) _
  have q1 := World.alloc_heap_new w1 (.cells #[.slice a3 3 c3, .int .i64 50] 25)
  go_wp2_with fail
  (with_reducible refine (M2.out _ ((ho.later hb1).later k1)).mono ?_)
  rintro e w2 ⟨hb2, rfl⟩
  clear M2
  have k2 : Below w2.heap.size w2 (w2.alloc (.cells #[.slice none 0 0, .int .i64 0] 25)) := (Below.refl _ w2).alloc (Nat.le_refl _) _
  have q2 := World.alloc_heap_new w2 (.cells #[.slice none 0 0, .int .i64 0] 25)
  have m12 := (hb2.trans (k2.mono hb2.size))
  have o2 := (((ho.later hb1).later k1).later hb2).later k2
  go_wp2_with fail
  (with_reducible refine (M3.out _ o2).mono ?_)
  rintro e w3 ⟨g, c, g2, c2, hb3, rfl, hD⟩
  clear M3
  have k3 : Below w3.heap.size w3 (w3.alloc (.cells #[.slice (some ⟨g, 0, none⟩) 1 c, .int .i64 0] 25)) := (Below.refl _ w3).alloc (Nat.le_refl _) _
  have q3 := World.alloc_heap_new w3 (.cells #[.slice (some ⟨g, 0, none⟩) 1 c, .int .i64 0] 25)
  have o3 := (o2.later hb3).later k3
  have m3 := hb3.trans (k3.mono hb3.size)
  go_wp2_with fail
  (with_reducible refine (M4.out _ o3).mono ?_)
  rintro e w4 ⟨hb4, rfl⟩
  clear M4
  have k4 : Below w4.heap.size w4 (w4.alloc (.cells #[.slice none 0 0, .int .i64 0] 25)) := (Below.refl _ w4).alloc (Nat.le_refl _) _
  have m4 := hb4.trans (k4.mono hb4.size)
  obtain ⟨P1, hP1⟩ : ∃ P, w1.heap.size = P := ⟨_, rfl⟩
  obtain ⟨P2, hP2⟩ : ∃ P, w2.heap.size = P := ⟨_, rfl⟩
  obtain ⟨P3, hP3⟩ : ∃ P, w3.heap.size = P := ⟨_, rfl⟩
  have hK : WkK w a3 c3 g c g2 c2 P1 P2 P3 L (w4.alloc (.cells #[.slice none 0 0, .int .i64 0] 25)) := by
    have r1 : (w1.alloc (.cells #[.slice a3 3 c3, .int .i64 50] 25)).cell? ⟨P1, 0, none⟩ = some (.slice a3 3 c3) := by rw [← hP1]; simp only [World.cell?, q1]; rfl
    have r1' : (w1.alloc (.cells #[.slice a3 3 c3, .int .i64 50] 25)).cell? ⟨P1, 1, none⟩ = some (.int .i64 50) := by rw [← hP1]; simp only [World.cell?, q1]; rfl
    have r2 : (w2.alloc (.cells #[.slice none 0 0, .int .i64 0] 25)).cell? ⟨P2, 0, none⟩ = some (.slice none 0 0) := by rw [← hP2]; simp only [World.cell?, q2]; rfl
    have r3 : (w3.alloc (.cells #[.slice (some ⟨g, 0, none⟩) 1 c, .int .i64 0] 25)).cell? ⟨P3, 0, none⟩ = some (.slice (some ⟨g, 0, none⟩) 1 c) := by rw [← hP3]; simp only [World.cell?, q3]; rfl
    have n1 := Tree.kept_trans hb1 k1
    have n2 := Tree.kept_trans n1 m12
    have n3 := Tree.kept_trans n2 m3
    exact ⟨o3.later m4, Tree.kept_trans n3 m4, keep_cell (keep_cell (keep_cell r1 m12) m3) m4, keep_cell (keep_cell (keep_cell r1' m12) m3) m4, keep_cell (keep_cell r2 m3) m4, keep_cell r3 m4, (((hS.later k1).later m12).later m3).later m4, (hD.later k3).later m4⟩
  clear q1 q2 q3 m12 m3 m4 k1 k2 k3 k4 hb1 hb2 hb3 hb4 o2 o3 hS hD
  have y3 := hK.p3
  have y5 := hK.d.1.2.2
  go_wp2_with fail
  have hKd : WkK w a3 c3 g c g2 c2 P1 P2 P3 L (w4.alloc (.cells #[.slice none 0 0, .int .i64 0] 25)).drew := hK.later (Below.refl _ _).drew
  clear hK y3 y5
  have H3 : Hid (∀ X : World, WkK w a3 c3 g c g2 c2 P1 P2 P3 L X → Calls Tryd.prog 37 #[] X fun e Y => ∃ v L3, e = .returned (.agg #[v, .int .i64 50]) ∧ Tree.SpsL Y v L3 ∧ L3.map (·.1) = ptA ∧ WkK w a3 c3 g c g2 c2 P1 P2 P3 L Y) := by
    refine Lib.hid (fun X h => (three_any X).mono ?_)
    rintro e Y ⟨v, L3, h1, h2, h3, h4⟩
    exact ⟨v, L3, h1, h2, h3, h.later h4⟩
  have H4 : Hid (∀ (X : World) (v : Value) (L3 : List (Sp × Value)), Tree.SpsL X v L3 → L3.map (·.1) = ptA → WkK w a3 c3 g c g2 c2 P1 P2 P3 L X → Calls Tryd.prog 16 #[.agg #[.slice a3 3 c3, .int .i64 50], .agg #[v, .int .i64 50]] X fun e Y => e = .returned (.bool true) ∧ WkK w a3 c3 g c g2 c2 P1 P2 P3 L Y) := by
    refine Lib.hid (fun X v L3 h1 h2 h => (Tree.refSame_V 50 50 (short_of hL small_A) (short_of h2 small_A) X h.sps h1).mono ?_)
    rintro e Y ⟨h3, h4⟩
    exact ⟨by rw [h3, hL, h2]; simp, h.later h4⟩
  have H5 : Hid (∀ X : World, WkK w a3 c3 g c g2 c2 P1 P2 P3 L X → Calls Tryd.prog 17 #[.string ⟨#[48, 97, 32, 119, 105, 116, 104, 105, 110, 32, 49]⟩] X fun e Y => e = .returned (.bool true) ∧ WkK w a3 c3 g c g2 c2 P1 P2 P3 L Y) := by
    refine Lib.hid (fun X h => (M5.out X h.ops).mono ?_)
    rintro e Y ⟨h3, h4⟩
    exact ⟨h3, h.later h4⟩
  have H6 : Hid (∀ X : World, WkK w a3 c3 g c g2 c2 P1 P2 P3 L X → Calls Tryd.prog 17 #[.string ⟨#[]⟩] X fun e Y => e = .returned (.bool false) ∧ WkK w a3 c3 g c g2 c2 P1 P2 P3 L Y) := by
    refine Lib.hid (fun X h => (M6.out X h.ops).mono ?_)
    rintro e Y ⟨h3, h4⟩
    exact ⟨h3, h.later h4⟩
  have hall := Lib.hid (fun (X : World) (h : WkK w a3 c3 g c g2 c2 P1 P2 P3 L X) => WkK.all h)
  have hex : ∀ W : World, (binOp .eql 48 (.agg #[.int .u8 2, .int .u8 5, .int .i64 (-4), .int .i64 0, .int .i64 2, .int .u8 0, .int .i64 (-7), .int .i64 0, .int .i64 0]) (.agg #[.int .u8 2, .int .u8 5, .int .i64 (-4), .int .i64 0, .int .i64 2, .int .u8 0, .int .i64 (-7), .int .i64 0, .int .i64 0])).run Tryd.prog W = .ok (.bool true) W := fun W => by kernel_rfl
  have hey : ∀ W : World, (binOp .eql 48 (.agg #[.int .u8 4, .int .u8 1, .int .i64 0, .int .i64 0, .int .i64 0, .int .u8 0, .int .i64 9, .int .i64 0, .int .i64 0]) (.agg #[.int .u8 4, .int .u8 1, .int .i64 0, .int .i64 0, .int .i64 0, .int .u8 0, .int .i64 9, .int .i64 0, .int .i64 0])).run Tryd.prog W = .ok (.bool true) W := fun W => by kernel_rfl
  clear M5 M6 hL ho
  dsimp only [List.append]
  go_region_held3 (fun X => (X.cell? ⟨P1, 0, none⟩ = some (.slice a3 3 c3) ∧ X.cell? ⟨P1, 1, none⟩ = some (.int .i64 50) ∧ X.cell? ⟨P2, 0, none⟩ = some (.slice none 0 0) ∧ X.cell? ⟨P3, 0, none⟩ = some (.slice (some ⟨g, 0, none⟩) 1 c) ∧ X.cell? ⟨g, 0, none⟩ = some (.bool true) ∧ X.cell? ⟨g, 1, none⟩ = some (.int .i64 5) ∧ X.cell? ⟨g, 5, none⟩ = some (.slice (some ⟨g2, 0, none⟩) 2 c2) ∧ X.cell? ⟨g2, 0, none⟩ = some (.int .u8 2) ∧ X.cell? ⟨g2, 1, none⟩ = some (.int .u8 5) ∧ X.cell? ⟨g2, 2, none⟩ = some (.int .i64 (-4)) ∧ X.cell? ⟨g2, 3, none⟩ = some (.int .i64 0) ∧ X.cell? ⟨g2, 4, none⟩ = some (.int .i64 2) ∧ X.cell? ⟨g2, 5, none⟩ = some (.int .u8 0) ∧ X.cell? ⟨g2, 6, none⟩ = some (.int .i64 (-7)) ∧ X.cell? ⟨g2, 7, none⟩ = some (.int .i64 0) ∧ X.cell? ⟨g2, 8, none⟩ = some (.int .i64 0) ∧ X.cell? ⟨g2, 9, none⟩ = some (.int .u8 4) ∧ X.cell? ⟨g2, 10, none⟩ = some (.int .u8 1) ∧ X.cell? ⟨g2, 11, none⟩ = some (.int .i64 0) ∧ X.cell? ⟨g2, 12, none⟩ = some (.int .i64 0) ∧ X.cell? ⟨g2, 13, none⟩ = some (.int .i64 0) ∧ X.cell? ⟨g2, 14, none⟩ = some (.int .u8 0) ∧ X.cell? ⟨g2, 15, none⟩ = some (.int .i64 9) ∧ X.cell? ⟨g2, 16, none⟩ = some (.int .i64 0) ∧ X.cell? ⟨g2, 17, none⟩ = some (.int .i64 0)) ∧ WkK w a3 c3 g c g2 c2 P1 P2 P3 L X) (first | exact hall.out _ hKd | (try go_split_ands); exact hall.out _ ‹WkK w a3 c3 g c g2 c2 P1 P2 P3 L _›) (first
    | (go_at_call 37; (try go_split_ands); (with_reducible refine (H3.out _ ‹WkK w a3 c3 g c g2 c2 P1 P2 P3 L _›).mono ?_); rintro e X ⟨v3, L3, rfl, hS3, hL3, hK1⟩)
    | (go_at_call 16; (try go_split_ands); (with_reducible refine (H4.out _ _ _ hS3 hL3 ‹WkK w a3 c3 g c g2 c2 P1 P2 P3 L _›).mono ?_); rintro e X ⟨rfl, hK2⟩)
    | (go_at_call 17; (try go_split_ands); (with_reducible refine (H5.out _ ‹WkK w a3 c3 g c g2 c2 P1 P2 P3 L _›).mono ?_); rintro e X ⟨rfl, hK3⟩)
    | (go_at_call 17; (try go_split_ands); (with_reducible refine (H6.out _ ‹WkK w a3 c3 g c g2 c2 P1 P2 P3 L _›).mono ?_); rintro e X ⟨rfl, hK4⟩)
    | fail)
  all_goals (go_wp2_with fail)
  all_goals go_ret
  all_goals exact ⟨rfl, hK4.low⟩
end Go.Proofs.YtkedifhlkiffoaaDoor
