/-
  Several texts in one: NZ OA OB OC.
-/
import Derived.Test.YtccmnngeibpcmaaGreatNVB
import Derived.Test.YtccmnngeibpcmaaGreatNVA
import Derived.Deep.RegionHeld3
import Derived.Test.YtccmnngeibpcmaaGreatUZB
import Derived.BigQuiet
/- The law's standing example: what stands ahead of its last line, and the line itself. -/
namespace Go.Proofs.YtccmnngeibpcmaaGreat.Tree
open Go.ChangeShapes Go.WideShapes Go.ChangeAt Go.RowKit
set_option linter.unusedVariables false
set_option linter.unusedSimpArgs false
set_option maxRecDepth 100000
attribute [local go_sem] Oper.semAt_some
def uwF : Sp := ⟨false, 2, 1, 2, false, []⟩
def uwG : Sp := ⟨true, 3, 1, 1, false, []⟩
abbrev fourL : List (Sp × Value) := [(uwA, nilS), (uwC, nilS), (uwF, nilS), (uwG, nilS)]
theorem ok_four : UnOk fourL := ⟨⟨⟨by decide, by intro x hx; simp at hx; rcases hx with rfl | rfl | rfl | rfl <;> decide⟩, by intro x hx; simp at hx; rcases hx with rfl | rfl | rfl | rfl <;> decide, by intro x hx c hc; simp at hx; rcases hx with rfl | rfl | rfl | rfl <;> cases hc⟩, ⟨by decide, by intro x hx; simp at hx; rcases hx with rfl | rfl | rfl | rfl <;> decide⟩⟩
theorem may_four : mayB [uwA, uwC, uwF, uwG] 9 = true := by kernel_rfl
abbrev autoW : List St := [⟨0, 0, false, [], -1, false⟩, ⟨2, 1, false, [1], 0, true⟩, ⟨2, 2, false, [], 1, true⟩]
theorem auto_four : autoS [uwA, uwC, uwF, uwG] 9 = autoW := by kernel_rfl
theorem after_four : afterL [uwA, uwC, uwF, uwG] 9 = [3] := by kernel_rfl
theorem right_W : rightA autoW = true := by kernel_rfl
theorem rows_W : rowsA autoW = [[0, 2], [0, 2, 2]] := by kernel_rfl
theorem row_W2 : rowA autoW 2 = [0, 2, 2] := by kernel_rfl
theorem row_W3 : rowA autoW 3 = [] := by kernel_rfl
theorem next_W0 : nextA autoW (-1) = [0] := by kernel_rfl
theorem next_W1 : nextA autoW 1 = [2] := by kernel_rfl
theorem place_W : ∀ s ∈ autoW, -1000000 ≤ s.place ∧ s.place ≤ 1000000 := by decide
theorem gs_W : ∀ s ∈ autoW, s.gs.length ≤ 1000000 := by decide
theorem twice_any (w : World) : Calls Tryz.prog 16 #[] w fun e w' => ∃ p, e = .returned (ptV (.slice (some ⟨p, 0, none⟩) 4 4) 9) ∧ SpsL w' (.slice (some ⟨p, 0, none⟩) 4 4) fourL ∧ Below w.heap.size w w' := by
  go_enter Tryz.func16, Tryz.ntmps16
  go_wp2
  have hp := (PtBox.new w (.slice (some ⟨w.heap.size + 1, 0, none⟩) 4 4) 9).later (kept_new _ (.cells #[.bool false, .int .i64 0, .int .i64 1, .int .i64 1, .bool false, .slice none 0 0, .bool true, .int .i64 1, .int .i64 1, .int .i64 1, .bool false, .slice none 0 0, .bool false, .int .i64 2, .int .i64 1, .int .i64 2, .bool false, .slice none 0 0, .bool true, .int .i64 3, .int .i64 1, .int .i64 1, .bool false, .slice none 0 0] 45))
  have hs := sps_lit (w.alloc (.cells #[.slice (some ⟨w.heap.size + 1, 0, none⟩) 4 4, .int .i64 9] 24)) #[.bool false, .int .i64 0, .int .i64 1, .int .i64 1, .bool false, .slice none 0 0, .bool true, .int .i64 1, .int .i64 1, .int .i64 1, .bool false, .slice none 0 0, .bool false, .int .i64 2, .int .i64 1, .int .i64 2, .bool false, .slice none 0 0, .bool true, .int .i64 3, .int .i64 1, .int .i64 1, .bool false, .slice none 0 0] fourL rfl (by decide) (by intro x hx; simp at hx; rcases hx with rfl | rfl | rfl | rfl <;> exact ⟨rfl, rfl⟩)
  rw [World.size_alloc] at hs
  exact bodyPost_ret (v := ptV (.slice (some ⟨w.heap.size + 1, 0, none⟩) 4 4) 9) (results_cell_row rfl _ _ w.heap.size 24 _ (0, 0) _ rfl hp Tryz.underlying24 rfl (by kernel_rfl)) rfl ⟨_, rfl, hs, below_two _ _ _⟩
theorem lit_at (W : World) (xs : List Int) : NmsAt (W.alloc (.cells (ints xs).toArray 3)) (.slice (some ⟨W.heap.size, 0, none⟩) xs.length xs.length) xs := by
  refine ⟨_, _, rfl, .inr ⟨_, _, rfl, fun j u hu => ?_⟩⟩
  have := World.alloc_heap_new W (.cells (ints xs).toArray 3)
  simp only [World.cell?, this, Nat.zero_add]
  simpa using hu
theorem lit_sts (X : World) : StsL (X.alloc (.cells #[.int .i64 0, .int .i64 0, .bool false, .slice none 0 0, .int .i64 0, .bool false] 41)) (.slice (some ⟨X.heap.size, 0, none⟩) 1 1) [(⟨0, 0, false, [], 0, false⟩, .slice none 0 0)] :=
  ⟨⟨_, _, rfl, cells_lit X [.int .i64 0, .int .i64 0, .bool false, .slice none 0 0, .int .i64 0, .bool false] 41⟩, fun x hx => by obtain rfl := List.mem_singleton.1 hx; exact nms_nil _⟩
theorem lit_two (X : World) {u v : Value} {r q : List Int} (h1 : NmsAt X u r) (h2 : NmsAt X v q) : RowsAt (X.alloc (.cells #[u, v] 28)) (.slice (some ⟨X.heap.size, 0, none⟩) 2 2) [r, q] := by
  refine ⟨[u, v], ⟨_, _, rfl, cells_lit X [u, v] 28⟩, rfl, fun k x y hx hy => ?_⟩
  match k, hx, hy with
  | 0, hx, hy => cases hx; cases hy; exact h1.later (kept_new X _)
  | 1, hx, hy => cases hx; cases hy; exact h2.later (kept_new X _)
  | k + 2, hx, hy => simp at hx
theorem rightZ (X : World) {v : Value} (h : StsL X v [(⟨0, 0, false, [], 0, false⟩, .slice none 0 0)]) : Calls Tryz.prog 18 #[auV v (.slice none 0 0) 0] X fun e Y => e = .returned (.bool false) ∧ Below X.heap.size X Y := by
  have := rightS_V (av := .slice none 0 0) 0 (by simp) (by decide) X h
  exact this
theorem rowedW (X : World) {u v : Value} (h1 : RowsAt X u [[0, 2], [0, 2, 2]]) (h2 : RowsAt X v [[0, 2], [0, 2, 2]]) : Calls Tryz.prog 11 #[u, v] X fun e Y => e = .returned (.bool true) ∧ Below X.heap.size X Y := by
  have := rowed_any h1 h2 (by simp) (by decide)
  simpa using this
theorem intsW (X : World) (l : List Int) (hl : l.length ≤ 1000) {u v : Value} (h1 : NmsAt X u l) (h2 : NmsAt X v l) : Calls Tryz.prog 14 #[u, v] X fun e Y => e = .returned (.bool true) ∧ Below X.heap.size X Y := by
  have := ints_any (v := u) (u := v) h1 h2 (by omega)
  simpa using this
/-- What Own has told. -/
def OwW (v u : Value) (X : World) : Prop := ∃ L : List (St × Value), StsL X v L ∧ L.map (·.1) = autoW ∧ NmsAt X u [3]
theorem OwW.later {v u : Value} {X Y : World} (h : OwW v u X) (hb : Below X.heap.size X Y) : OwW v u Y := by
  obtain ⟨L, h1, h2, h3⟩ := h; exact ⟨L, h1.later hb, h2, h3.later hb⟩
noncomputable def reg6w : Code := (Tryz.f6.body.bind (regOf 4)).getD .skip
set_option maxHeartbeats 8000000 in
theorem wakes_reg4 {b1 b5 c1 ca c5 cb : Nat} {a1 aa a5 ab : Option Addr} (wr : World)
    (hO1 : OwW (.slice a1 3 c1) (.slice aa 1 ca) wr.drew) (hO5 : OwW (.slice a5 3 c5) (.slice ab 1 cb) wr.drew) (hB1 : AuBox b1 (.slice a1 3 c1) (.slice aa 1 ca) 9 wr.drew) (hB5 : AuBox b5 (.slice a5 3 c5) (.slice ab 1 cb) 9 wr.drew)
    (u3 u6 u7 u8 u9 u10 u11 u12 u13 u14 u15 u16 u17 u18 u19 u20 u21 u22 y0 y23 y24 y25 y26 y27 y28 y29 y30 y31 y32 y33 y34 y35 y36 y37 y38 y39 y40 y41 y42 y43 y44 y45 y46 y47 y48 y49 y50 y51 y52 y53 y54 y55 y56 y57 y58 y59 y60 y61 y62 y63 y64 y65 y66 y67 y68 y69 y70 y71 y72 y73 y74 y75 y76 y77 y78 y79 y80 y81 y82 y83 y84 y85 y86 y87 y88 : Value) (Q0 : Exit → Act → World → Prop)
    (hQ0 : ∀ (x23 x24 x25 x26 x27 x28 x29 x30 x31 x32 x33 x34 x35 x36 x37 x38 x39 x40 x41 x42 x43 x44 x45 x46 x47 x48 x49 x50 x51 x52 x53 x54 x55 x56 x57 x58 x59 x60 x61 x62 x63 x64 x65 x66 x67 x68 x69 x70 x71 x72 x73 x74 x75 x76 x77 x78 x79 x80 x81 x82 x83 x84 x85 x86 x87 x88 : Value) (X : World), Below wr.drew.heap.size wr.drew X → Q0 .normal ({ tmps := #[.bool true, .pointer (some ⟨b1, 0, none⟩), .int .i64 0, u3, .int .i64 110, .pointer (some ⟨b5, 0, none⟩), u6, u7, u8, u9, u10, u11, u12, u13, u14, u15, u16, u17, u18, u19, u20, u21, u22, x23, x24, x25, x26, x27, x28, x29, x30, x31, x32, x33, x34, x35, x36, x37, x38, x39, x40, x41, x42, x43, x44, x45, x46, x47, x48, x49, x50, x51, x52, x53, x54, x55, x56, x57, x58, x59, x60, x61, x62, x63, x64, x65, x66, x67, x68, x69, x70, x71, x72, x73, x74, x75, x76, x77, x78, x79, x80, x81, x82, x83, x84, x85, x86, x87, x88], defers := [] }) X) :
    Code.wp Tryz.prog reg6w Q0 ({ tmps := #[y0, .pointer (some ⟨b1, 0, none⟩), .int .i64 0, u3, .int .i64 110, .pointer (some ⟨b5, 0, none⟩), u6, u7, u8, u9, u10, u11, u12, u13, u14, u15, u16, u17, u18, u19, u20, u21, u22, y23, y24, y25, y26, y27, y28, y29, y30, y31, y32, y33, y34, y35, y36, y37, y38, y39, y40, y41, y42, y43, y44, y45, y46, y47, y48, y49, y50, y51, y52, y53, y54, y55, y56, y57, y58, y59, y60, y61, y62, y63, y64, y65, y66, y67, y68, y69, y70, y71, y72, y73, y74, y75, y76, y77, y78, y79, y80, y81, y82, y83, y84, y85, y86, y87, y88], defers := [] }) wr := by
  conv => arg 2; whnf
  obtain ⟨W0, hW0⟩ : ∃ W0, wr.drew = W0 := ⟨_, rfl⟩
  rw [hW0] at hO1 hO5 hB1 hB5 hQ0
  have hF : Hid (∀ X, Below W0.heap.size W0 X → X.cell? ⟨b1, 0, none⟩ = some (.slice a1 3 c1) ∧ X.cell? ⟨b1, 1, none⟩ = some (.slice aa 1 ca) ∧ X.cell? ⟨b1, 2, none⟩ = some (.int .i64 9) ∧ X.cell? ⟨b5, 0, none⟩ = some (.slice a5 3 c5) ∧ X.cell? ⟨b5, 1, none⟩ = some (.slice ab 1 cb) ∧ X.cell? ⟨b5, 2, none⟩ = some (.int .i64 9)) := Lib.hid fun X hX =>
    ⟨(hB1.later hX).c0, (hB1.later hX).c1, (hB1.later hX).c2, (hB5.later hX).c0, (hB5.later hX).c1, (hB5.later hX).c2⟩
  have hpl : ∀ (L : List (St × Value)), L.map (·.1) = autoW → L.length ≤ 1000000 ∧ (∀ s ∈ L.map (·.1), -1000000 ≤ s.place ∧ s.place ≤ 1000000) ∧ ∀ x ∈ L, x.1.gs.length ≤ 1000000 := fun L e =>
    ⟨by have := congrArg List.length e; simp at this; omega, by rw [e]; exact place_W, fun x hx => gs_W x.1 (by rw [← e]; exact List.mem_map_of_mem hx)⟩
  have D9 : Hid (∀ X, Below W0.heap.size W0 X → Calls Tryz.prog 17 #[auV (.slice a1 3 c1) (.slice aa 1 ca) 9, auV (.slice a5 3 c5) (.slice ab 1 cb) 9] X fun e Y => e = .returned (.bool true) ∧ Below X.heap.size X Y) := Lib.hid fun X hX => by
    obtain ⟨L, h1, h2, h3⟩ := hO1.later hX
    obtain ⟨L', k1, k2, k3⟩ := hO5.later hX
    exact rsame_true 9 (hpl L h2).1 (by simp) (hpl L h2).2.2 (k2.trans h2.symm) X h1 k1 h3 k3
  have D13 : Hid (∀ X, Below W0.heap.size W0 X → Calls Tryz.prog 18 #[auV (.slice a1 3 c1) (.slice aa 1 ca) 9] X fun e Y => e = .returned (.bool true) ∧ Below X.heap.size X Y) := Lib.hid fun X hX => by
    obtain ⟨L, h1, h2, h3⟩ := hO1.later hX
    have := rightS_V (av := .slice aa 1 ca) 9 (hpl L h2).1 (hpl L h2).2.1 X h1
    rw [h2, right_W] at this
    exact this
  have D24 : Hid (∀ X, Below W0.heap.size W0 X → Calls Tryz.prog 9 #[auV (.slice a1 3 c1) (.slice aa 1 ca) 9] X fun e Y => ∃ u, e = .returned u ∧ RowsAt Y u [[0, 2], [0, 2, 2]] ∧ Below X.heap.size X Y) := Lib.hid fun X hX => by
    obtain ⟨L, h1, h2, h3⟩ := hO1.later hX
    have := rowsA_V (av := .slice aa 1 ca) 9 (hpl L h2).1 (hpl L h2).2.1 X h1 ⟨_, _, _, rfl⟩
    rw [h2, rows_W] at this
    refine this.mono ?_
    rintro e Y ⟨u, g1, g2, g3⟩
    exact ⟨u, g1, g2.at, g3⟩
  have D32 : Hid (∀ X, Below W0.heap.size W0 X → Calls Tryz.prog 13 #[auV (.slice a1 3 c1) (.slice aa 1 ca) 9, .int .i64 2] X fun e Y => ∃ u, e = .returned u ∧ NmsAt Y u [0, 2, 2] ∧ Below X.heap.size X Y) := Lib.hid fun X hX => by
    obtain ⟨L, h1, h2, h3⟩ := hO1.later hX
    have := rowA_V (av := .slice aa 1 ca) 9 2 (hpl L h2).1 (hpl L h2).2.1 X h1 ⟨_, _, _, rfl⟩
    rw [h2, row_W2] at this
    refine this.mono ?_
    rintro e Y ⟨u, g1, g2, g3⟩
    exact ⟨u, g1, nms_own g2, g3⟩
  have D38 : Hid (∀ X, Below W0.heap.size W0 X → Calls Tryz.prog 13 #[auV (.slice a1 3 c1) (.slice aa 1 ca) 9, .int .i64 3] X fun e Y => ∃ a c, e = .returned (.slice a 0 c) ∧ Below X.heap.size X Y) := Lib.hid fun X hX => by
    obtain ⟨L, h1, h2, h3⟩ := hO1.later hX
    have := rowA_V (av := .slice aa 1 ca) 9 3 (hpl L h2).1 (hpl L h2).2.1 X h1 ⟨_, _, _, rfl⟩
    rw [h2, row_W3] at this
    refine this.mono ?_
    rintro e Y ⟨u, rfl, g2, g3⟩
    obtain ⟨a, c, rfl, -⟩ := nms_own (xs := []) g2
    exact ⟨a, c, rfl, g3⟩
  have D44 : Hid (∀ X, Below W0.heap.size W0 X → Calls Tryz.prog 19 #[auV (.slice a1 3 c1) (.slice aa 1 ca) 9, .int .i64 (-1)] X fun e Y => ∃ u, e = .returned u ∧ NmsAt Y u [0] ∧ Below X.heap.size X Y) := Lib.hid fun X hX => by
    obtain ⟨L, h1, h2, h3⟩ := hO1.later hX
    have := nextA_V (av := .slice aa 1 ca) 9 (-1) (hpl L h2).1 (hpl L h2).2.1 X h1 ⟨_, _, _, rfl⟩
    rw [h2, next_W0] at this
    refine this.mono ?_
    rintro e Y ⟨u, g1, g2, g3⟩
    exact ⟨u, g1, nms_own g2, g3⟩
  have D50 : Hid (∀ X, Below W0.heap.size W0 X → Calls Tryz.prog 19 #[auV (.slice a1 3 c1) (.slice aa 1 ca) 9, .int .i64 1] X fun e Y => ∃ u, e = .returned u ∧ NmsAt Y u [2] ∧ Below X.heap.size X Y) := Lib.hid fun X hX => by
    obtain ⟨L, h1, h2, h3⟩ := hO1.later hX
    have := nextA_V (av := .slice aa 1 ca) 9 1 (hpl L h2).1 (hpl L h2).2.1 X h1 ⟨_, _, _, rfl⟩
    rw [h2, next_W1] at this
    refine this.mono ?_
    rintro e Y ⟨u, g1, g2, g3⟩
    exact ⟨u, g1, nms_own g2, g3⟩
  have D56 : Hid (∀ X, Below W0.heap.size W0 X → Calls Tryz.prog 21 #[auV (.slice a1 3 c1) (.slice aa 1 ca) 9] X fun e Y => ∃ a c a' c', e = .returned (auV (.slice a 3 c) (.slice a' 1 c') 9) ∧ OwW (.slice a 3 c) (.slice a' 1 c') Y ∧ Below X.heap.size X Y) := Lib.hid fun X hX => by
    obtain ⟨L, h1, h2, h3⟩ := hO1.later hX
    refine (ownA_V 9 (hpl L h2).1 (by simp) (hpl L h2).2.2 X h1 h3).mono ?_
    rintro e Y ⟨v', av', L', g1, g2, g3, g4, g5⟩
    obtain ⟨a, c, rfl⟩ := g2.lit (n := 3) (by have := congrArg List.length (g3.trans h2); simpa using this)
    obtain ⟨a', c', rfl, h9⟩ := id g4
    exact ⟨a, c, a', c', g1, ⟨L', g2, g3.trans h2, g4⟩, g5⟩
  have D58 : Hid (∀ X (a : Option Addr) (c : Nat) (a' : Option Addr) (c' : Nat), OwW (.slice a 3 c) (.slice a' 1 c') X → Below W0.heap.size W0 X → Calls Tryz.prog 20 #[auV (.slice a 3 c) (.slice a' 1 c') 9, auV (.slice a1 3 c1) (.slice aa 1 ca) 9] X fun e Y => e = .returned (.bool true) ∧ Below X.heap.size X Y) := Lib.hid fun X a c a' c' hw hX => by
    obtain ⟨L, h1, h2, h3⟩ := hO1.later hX
    obtain ⟨L', k1, k2, k3⟩ := hw
    exact same_true 9 (hpl L' k2).1 (by simp) (hpl L' k2).2.2 (h2.trans k2.symm) X k1 h1 k3 h3
  have D63 : Hid (∀ X, Below W0.heap.size W0 X → Calls Tryz.prog 20 #[auV (.slice a1 3 c1) (.slice aa 1 ca) 9, auV (.slice none 0 0) (.slice none 0 0) 0] X fun e Y => e = .returned (.bool false) ∧ Below X.heap.size X Y) := Lib.hid fun X hX =>
    same_win _ _ _ _ 9 0 (by decide) ⟨_, _, _, rfl⟩ ⟨_, _, _, rfl⟩ ⟨_, _, _, rfl⟩ ⟨_, _, _, rfl⟩ X
  clear hpl
  have hW' := Below.refl W0.heap.size W0
  have hmx : Tryz.prog.follows .mixedOrders = true := by kernel_rfl
  replace hQ0 := Lib.hid hQ0
  replace hO1 := Lib.hid hO1
  replace hO5 := Lib.hid hO5
  replace hB1 := Lib.hid hB1
  replace hB5 := Lib.hid hB5
  refine wp_region_noPanic ?_
  refine wp_region_held (S := fun Z => Below W0.heap.size W0 Z) hmx ?_
  try dsimp only [List.append]
  change wpAnyH _ _ _ _ _ _ _ _ wr.drew
  rw [hW0]
  generalize hops : (List.toArray _ : Array Oper) = ops
  generalize hQQ : NoPanic _ = QQ
  have hQp : ∀ (d : Option Tmp) (v : Value) (c : _) (a : Act) (w : World), QQ (.panic c) (a.put d v) w → QQ (.panic c) a w := by rw [← hQQ]; intro d v c a w h; exact h
  have hNS : Region.noSelect ops = true := by rw [← hops]; kernel_rfl
  obtain ⟨oo, hop0⟩ : ∃ o, ops[0]? = some o := ⟨_, by rw [← hops]; rfl⟩
  have hv := hop0
  rw [← hops] at hv
  simp only [List.getElem?_toArray, List.getElem?_cons_succ, List.getElem?_cons_zero, Option.some.injEq] at hv
  subst hv
  obtain ⟨oo, hop1⟩ : ∃ o, ops[1]? = some o := ⟨_, by rw [← hops]; rfl⟩
  have hv := hop1
  rw [← hops] at hv
  simp only [List.getElem?_toArray, List.getElem?_cons_succ, List.getElem?_cons_zero, Option.some.injEq] at hv
  subst hv
  obtain ⟨oo, hop2⟩ : ∃ o, ops[2]? = some o := ⟨_, by rw [← hops]; rfl⟩
  have hv := hop2
  rw [← hops] at hv
  simp only [List.getElem?_toArray, List.getElem?_cons_succ, List.getElem?_cons_zero, Option.some.injEq] at hv
  subst hv
  obtain ⟨oo, hop3⟩ : ∃ o, ops[3]? = some o := ⟨_, by rw [← hops]; rfl⟩
  have hv := hop3
  rw [← hops] at hv
  simp only [List.getElem?_toArray, List.getElem?_cons_succ, List.getElem?_cons_zero, Option.some.injEq] at hv
  subst hv
  obtain ⟨oo, hop4⟩ : ∃ o, ops[4]? = some o := ⟨_, by rw [← hops]; rfl⟩
  have hv := hop4
  rw [← hops] at hv
  simp only [List.getElem?_toArray, List.getElem?_cons_succ, List.getElem?_cons_zero, Option.some.injEq] at hv
  subst hv
  obtain ⟨oo, hop5⟩ : ∃ o, ops[5]? = some o := ⟨_, by rw [← hops]; rfl⟩
  have hv := hop5
  rw [← hops] at hv
  simp only [List.getElem?_toArray, List.getElem?_cons_succ, List.getElem?_cons_zero, Option.some.injEq] at hv
  subst hv
  obtain ⟨oo, hop6⟩ : ∃ o, ops[6]? = some o := ⟨_, by rw [← hops]; rfl⟩
  have hv := hop6
  rw [← hops] at hv
  simp only [List.getElem?_toArray, List.getElem?_cons_succ, List.getElem?_cons_zero, Option.some.injEq] at hv
  subst hv
  obtain ⟨oo, hop7⟩ : ∃ o, ops[7]? = some o := ⟨_, by rw [← hops]; rfl⟩
  have hv := hop7
  rw [← hops] at hv
  simp only [List.getElem?_toArray, List.getElem?_cons_succ, List.getElem?_cons_zero, Option.some.injEq] at hv
  subst hv
  obtain ⟨oo, hop8⟩ : ∃ o, ops[8]? = some o := ⟨_, by rw [← hops]; rfl⟩
  have hv := hop8
  rw [← hops] at hv
  simp only [List.getElem?_toArray, List.getElem?_cons_succ, List.getElem?_cons_zero, Option.some.injEq] at hv
  subst hv
  obtain ⟨oo, hop9⟩ : ∃ o, ops[9]? = some o := ⟨_, by rw [← hops]; rfl⟩
  have hv := hop9
  rw [← hops] at hv
  simp only [List.getElem?_toArray, List.getElem?_cons_succ, List.getElem?_cons_zero, Option.some.injEq] at hv
  subst hv
  obtain ⟨oo, hop10⟩ : ∃ o, ops[10]? = some o := ⟨_, by rw [← hops]; rfl⟩
  have hv := hop10
  rw [← hops] at hv
  simp only [List.getElem?_toArray, List.getElem?_cons_succ, List.getElem?_cons_zero, Option.some.injEq] at hv
  subst hv
  obtain ⟨oo, hop11⟩ : ∃ o, ops[11]? = some o := ⟨_, by rw [← hops]; rfl⟩
  have hv := hop11
  rw [← hops] at hv
  simp only [List.getElem?_toArray, List.getElem?_cons_succ, List.getElem?_cons_zero, Option.some.injEq] at hv
  subst hv
  obtain ⟨oo, hop12⟩ : ∃ o, ops[12]? = some o := ⟨_, by rw [← hops]; rfl⟩
  have hv := hop12
  rw [← hops] at hv
  simp only [List.getElem?_toArray, List.getElem?_cons_succ, List.getElem?_cons_zero, Option.some.injEq] at hv
  subst hv
  obtain ⟨oo, hop13⟩ : ∃ o, ops[13]? = some o := ⟨_, by rw [← hops]; rfl⟩
  have hv := hop13
  rw [← hops] at hv
  simp only [List.getElem?_toArray, List.getElem?_cons_succ, List.getElem?_cons_zero, Option.some.injEq] at hv
  subst hv
  obtain ⟨oo, hop14⟩ : ∃ o, ops[14]? = some o := ⟨_, by rw [← hops]; rfl⟩
  have hv := hop14
  rw [← hops] at hv
  simp only [List.getElem?_toArray, List.getElem?_cons_succ, List.getElem?_cons_zero, Option.some.injEq] at hv
  subst hv
  obtain ⟨oo, hop15⟩ : ∃ o, ops[15]? = some o := ⟨_, by rw [← hops]; rfl⟩
  have hv := hop15
  rw [← hops] at hv
  simp only [List.getElem?_toArray, List.getElem?_cons_succ, List.getElem?_cons_zero, Option.some.injEq] at hv
  subst hv
  obtain ⟨oo, hop16⟩ : ∃ o, ops[16]? = some o := ⟨_, by rw [← hops]; rfl⟩
  have hv := hop16
  rw [← hops] at hv
  simp only [List.getElem?_toArray, List.getElem?_cons_succ, List.getElem?_cons_zero, Option.some.injEq] at hv
  subst hv
  obtain ⟨oo, hop17⟩ : ∃ o, ops[17]? = some o := ⟨_, by rw [← hops]; rfl⟩
  have hv := hop17
  rw [← hops] at hv
  simp only [List.getElem?_toArray, List.getElem?_cons_succ, List.getElem?_cons_zero, Option.some.injEq] at hv
  subst hv
  obtain ⟨oo, hop18⟩ : ∃ o, ops[18]? = some o := ⟨_, by rw [← hops]; rfl⟩
  have hv := hop18
  rw [← hops] at hv
  simp only [List.getElem?_toArray, List.getElem?_cons_succ, List.getElem?_cons_zero, Option.some.injEq] at hv
  subst hv
  obtain ⟨oo, hop19⟩ : ∃ o, ops[19]? = some o := ⟨_, by rw [← hops]; rfl⟩
  have hv := hop19
  rw [← hops] at hv
  simp only [List.getElem?_toArray, List.getElem?_cons_succ, List.getElem?_cons_zero, Option.some.injEq] at hv
  subst hv
  obtain ⟨oo, hop20⟩ : ∃ o, ops[20]? = some o := ⟨_, by rw [← hops]; rfl⟩
  have hv := hop20
  rw [← hops] at hv
  simp only [List.getElem?_toArray, List.getElem?_cons_succ, List.getElem?_cons_zero, Option.some.injEq] at hv
  subst hv
  obtain ⟨oo, hop21⟩ : ∃ o, ops[21]? = some o := ⟨_, by rw [← hops]; rfl⟩
  have hv := hop21
  rw [← hops] at hv
  simp only [List.getElem?_toArray, List.getElem?_cons_succ, List.getElem?_cons_zero, Option.some.injEq] at hv
  subst hv
  obtain ⟨oo, hop22⟩ : ∃ o, ops[22]? = some o := ⟨_, by rw [← hops]; rfl⟩
  have hv := hop22
  rw [← hops] at hv
  simp only [List.getElem?_toArray, List.getElem?_cons_succ, List.getElem?_cons_zero, Option.some.injEq] at hv
  subst hv
  obtain ⟨oo, hop23⟩ : ∃ o, ops[23]? = some o := ⟨_, by rw [← hops]; rfl⟩
  have hv := hop23
  rw [← hops] at hv
  simp only [List.getElem?_toArray, List.getElem?_cons_succ, List.getElem?_cons_zero, Option.some.injEq] at hv
  subst hv
  obtain ⟨oo, hop24⟩ : ∃ o, ops[24]? = some o := ⟨_, by rw [← hops]; rfl⟩
  have hv := hop24
  rw [← hops] at hv
  simp only [List.getElem?_toArray, List.getElem?_cons_succ, List.getElem?_cons_zero, Option.some.injEq] at hv
  subst hv
  obtain ⟨oo, hop25⟩ : ∃ o, ops[25]? = some o := ⟨_, by rw [← hops]; rfl⟩
  have hv := hop25
  rw [← hops] at hv
  simp only [List.getElem?_toArray, List.getElem?_cons_succ, List.getElem?_cons_zero, Option.some.injEq] at hv
  subst hv
  obtain ⟨oo, hop26⟩ : ∃ o, ops[26]? = some o := ⟨_, by rw [← hops]; rfl⟩
  have hv := hop26
  rw [← hops] at hv
  simp only [List.getElem?_toArray, List.getElem?_cons_succ, List.getElem?_cons_zero, Option.some.injEq] at hv
  subst hv
  obtain ⟨oo, hop27⟩ : ∃ o, ops[27]? = some o := ⟨_, by rw [← hops]; rfl⟩
  have hv := hop27
  rw [← hops] at hv
  simp only [List.getElem?_toArray, List.getElem?_cons_succ, List.getElem?_cons_zero, Option.some.injEq] at hv
  subst hv
  obtain ⟨oo, hop28⟩ : ∃ o, ops[28]? = some o := ⟨_, by rw [← hops]; rfl⟩
  have hv := hop28
  rw [← hops] at hv
  simp only [List.getElem?_toArray, List.getElem?_cons_succ, List.getElem?_cons_zero, Option.some.injEq] at hv
  subst hv
  obtain ⟨oo, hop29⟩ : ∃ o, ops[29]? = some o := ⟨_, by rw [← hops]; rfl⟩
  have hv := hop29
  rw [← hops] at hv
  simp only [List.getElem?_toArray, List.getElem?_cons_succ, List.getElem?_cons_zero, Option.some.injEq] at hv
  subst hv
  obtain ⟨oo, hop30⟩ : ∃ o, ops[30]? = some o := ⟨_, by rw [← hops]; rfl⟩
  have hv := hop30
  rw [← hops] at hv
  simp only [List.getElem?_toArray, List.getElem?_cons_succ, List.getElem?_cons_zero, Option.some.injEq] at hv
  subst hv
  obtain ⟨oo, hop31⟩ : ∃ o, ops[31]? = some o := ⟨_, by rw [← hops]; rfl⟩
  have hv := hop31
  rw [← hops] at hv
  simp only [List.getElem?_toArray, List.getElem?_cons_succ, List.getElem?_cons_zero, Option.some.injEq] at hv
  subst hv
  obtain ⟨oo, hop32⟩ : ∃ o, ops[32]? = some o := ⟨_, by rw [← hops]; rfl⟩
  have hv := hop32
  rw [← hops] at hv
  simp only [List.getElem?_toArray, List.getElem?_cons_succ, List.getElem?_cons_zero, Option.some.injEq] at hv
  subst hv
  obtain ⟨oo, hop33⟩ : ∃ o, ops[33]? = some o := ⟨_, by rw [← hops]; rfl⟩
  have hv := hop33
  rw [← hops] at hv
  simp only [List.getElem?_toArray, List.getElem?_cons_succ, List.getElem?_cons_zero, Option.some.injEq] at hv
  subst hv
  obtain ⟨oo, hop34⟩ : ∃ o, ops[34]? = some o := ⟨_, by rw [← hops]; rfl⟩
  have hv := hop34
  rw [← hops] at hv
  simp only [List.getElem?_toArray, List.getElem?_cons_succ, List.getElem?_cons_zero, Option.some.injEq] at hv
  subst hv
  obtain ⟨oo, hop35⟩ : ∃ o, ops[35]? = some o := ⟨_, by rw [← hops]; rfl⟩
  have hv := hop35
  rw [← hops] at hv
  simp only [List.getElem?_toArray, List.getElem?_cons_succ, List.getElem?_cons_zero, Option.some.injEq] at hv
  subst hv
  obtain ⟨oo, hop36⟩ : ∃ o, ops[36]? = some o := ⟨_, by rw [← hops]; rfl⟩
  have hv := hop36
  rw [← hops] at hv
  simp only [List.getElem?_toArray, List.getElem?_cons_succ, List.getElem?_cons_zero, Option.some.injEq] at hv
  subst hv
  obtain ⟨oo, hop37⟩ : ∃ o, ops[37]? = some o := ⟨_, by rw [← hops]; rfl⟩
  have hv := hop37
  rw [← hops] at hv
  simp only [List.getElem?_toArray, List.getElem?_cons_succ, List.getElem?_cons_zero, Option.some.injEq] at hv
  subst hv
  obtain ⟨oo, hop38⟩ : ∃ o, ops[38]? = some o := ⟨_, by rw [← hops]; rfl⟩
  have hv := hop38
  rw [← hops] at hv
  simp only [List.getElem?_toArray, List.getElem?_cons_succ, List.getElem?_cons_zero, Option.some.injEq] at hv
  subst hv
  obtain ⟨oo, hop39⟩ : ∃ o, ops[39]? = some o := ⟨_, by rw [← hops]; rfl⟩
  have hv := hop39
  rw [← hops] at hv
  simp only [List.getElem?_toArray, List.getElem?_cons_succ, List.getElem?_cons_zero, Option.some.injEq] at hv
  subst hv
  obtain ⟨oo, hop40⟩ : ∃ o, ops[40]? = some o := ⟨_, by rw [← hops]; rfl⟩
  have hv := hop40
  rw [← hops] at hv
  simp only [List.getElem?_toArray, List.getElem?_cons_succ, List.getElem?_cons_zero, Option.some.injEq] at hv
  subst hv
  obtain ⟨oo, hop41⟩ : ∃ o, ops[41]? = some o := ⟨_, by rw [← hops]; rfl⟩
  have hv := hop41
  rw [← hops] at hv
  simp only [List.getElem?_toArray, List.getElem?_cons_succ, List.getElem?_cons_zero, Option.some.injEq] at hv
  subst hv
  obtain ⟨oo, hop42⟩ : ∃ o, ops[42]? = some o := ⟨_, by rw [← hops]; rfl⟩
  have hv := hop42
  rw [← hops] at hv
  simp only [List.getElem?_toArray, List.getElem?_cons_succ, List.getElem?_cons_zero, Option.some.injEq] at hv
  subst hv
  obtain ⟨oo, hop43⟩ : ∃ o, ops[43]? = some o := ⟨_, by rw [← hops]; rfl⟩
  have hv := hop43
  rw [← hops] at hv
  simp only [List.getElem?_toArray, List.getElem?_cons_succ, List.getElem?_cons_zero, Option.some.injEq] at hv
  subst hv
  obtain ⟨oo, hop44⟩ : ∃ o, ops[44]? = some o := ⟨_, by rw [← hops]; rfl⟩
  have hv := hop44
  rw [← hops] at hv
  simp only [List.getElem?_toArray, List.getElem?_cons_succ, List.getElem?_cons_zero, Option.some.injEq] at hv
  subst hv
  obtain ⟨oo, hop45⟩ : ∃ o, ops[45]? = some o := ⟨_, by rw [← hops]; rfl⟩
  have hv := hop45
  rw [← hops] at hv
  simp only [List.getElem?_toArray, List.getElem?_cons_succ, List.getElem?_cons_zero, Option.some.injEq] at hv
  subst hv
  obtain ⟨oo, hop46⟩ : ∃ o, ops[46]? = some o := ⟨_, by rw [← hops]; rfl⟩
  have hv := hop46
  rw [← hops] at hv
  simp only [List.getElem?_toArray, List.getElem?_cons_succ, List.getElem?_cons_zero, Option.some.injEq] at hv
  subst hv
  obtain ⟨oo, hop47⟩ : ∃ o, ops[47]? = some o := ⟨_, by rw [← hops]; rfl⟩
  have hv := hop47
  rw [← hops] at hv
  simp only [List.getElem?_toArray, List.getElem?_cons_succ, List.getElem?_cons_zero, Option.some.injEq] at hv
  subst hv
  obtain ⟨oo, hop48⟩ : ∃ o, ops[48]? = some o := ⟨_, by rw [← hops]; rfl⟩
  have hv := hop48
  rw [← hops] at hv
  simp only [List.getElem?_toArray, List.getElem?_cons_succ, List.getElem?_cons_zero, Option.some.injEq] at hv
  subst hv
  obtain ⟨oo, hop49⟩ : ∃ o, ops[49]? = some o := ⟨_, by rw [← hops]; rfl⟩
  have hv := hop49
  rw [← hops] at hv
  simp only [List.getElem?_toArray, List.getElem?_cons_succ, List.getElem?_cons_zero, Option.some.injEq] at hv
  subst hv
  obtain ⟨oo, hop50⟩ : ∃ o, ops[50]? = some o := ⟨_, by rw [← hops]; rfl⟩
  have hv := hop50
  rw [← hops] at hv
  simp only [List.getElem?_toArray, List.getElem?_cons_succ, List.getElem?_cons_zero, Option.some.injEq] at hv
  subst hv
  obtain ⟨oo, hop51⟩ : ∃ o, ops[51]? = some o := ⟨_, by rw [← hops]; rfl⟩
  have hv := hop51
  rw [← hops] at hv
  simp only [List.getElem?_toArray, List.getElem?_cons_succ, List.getElem?_cons_zero, Option.some.injEq] at hv
  subst hv
  obtain ⟨oo, hop52⟩ : ∃ o, ops[52]? = some o := ⟨_, by rw [← hops]; rfl⟩
  have hv := hop52
  rw [← hops] at hv
  simp only [List.getElem?_toArray, List.getElem?_cons_succ, List.getElem?_cons_zero, Option.some.injEq] at hv
  subst hv
  obtain ⟨oo, hop53⟩ : ∃ o, ops[53]? = some o := ⟨_, by rw [← hops]; rfl⟩
  have hv := hop53
  rw [← hops] at hv
  simp only [List.getElem?_toArray, List.getElem?_cons_succ, List.getElem?_cons_zero, Option.some.injEq] at hv
  subst hv
  obtain ⟨oo, hop54⟩ : ∃ o, ops[54]? = some o := ⟨_, by rw [← hops]; rfl⟩
  have hv := hop54
  rw [← hops] at hv
  simp only [List.getElem?_toArray, List.getElem?_cons_succ, List.getElem?_cons_zero, Option.some.injEq] at hv
  subst hv
  obtain ⟨oo, hop55⟩ : ∃ o, ops[55]? = some o := ⟨_, by rw [← hops]; rfl⟩
  have hv := hop55
  rw [← hops] at hv
  simp only [List.getElem?_toArray, List.getElem?_cons_succ, List.getElem?_cons_zero, Option.some.injEq] at hv
  subst hv
  obtain ⟨oo, hop56⟩ : ∃ o, ops[56]? = some o := ⟨_, by rw [← hops]; rfl⟩
  have hv := hop56
  rw [← hops] at hv
  simp only [List.getElem?_toArray, List.getElem?_cons_succ, List.getElem?_cons_zero, Option.some.injEq] at hv
  subst hv
  obtain ⟨oo, hop57⟩ : ∃ o, ops[57]? = some o := ⟨_, by rw [← hops]; rfl⟩
  have hv := hop57
  rw [← hops] at hv
  simp only [List.getElem?_toArray, List.getElem?_cons_succ, List.getElem?_cons_zero, Option.some.injEq] at hv
  subst hv
  obtain ⟨oo, hop58⟩ : ∃ o, ops[58]? = some o := ⟨_, by rw [← hops]; rfl⟩
  have hv := hop58
  rw [← hops] at hv
  simp only [List.getElem?_toArray, List.getElem?_cons_succ, List.getElem?_cons_zero, Option.some.injEq] at hv
  subst hv
  obtain ⟨oo, hop59⟩ : ∃ o, ops[59]? = some o := ⟨_, by rw [← hops]; rfl⟩
  have hv := hop59
  rw [← hops] at hv
  simp only [List.getElem?_toArray, List.getElem?_cons_succ, List.getElem?_cons_zero, Option.some.injEq] at hv
  subst hv
  obtain ⟨oo, hop60⟩ : ∃ o, ops[60]? = some o := ⟨_, by rw [← hops]; rfl⟩
  have hv := hop60
  rw [← hops] at hv
  simp only [List.getElem?_toArray, List.getElem?_cons_succ, List.getElem?_cons_zero, Option.some.injEq] at hv
  subst hv
  obtain ⟨oo, hop61⟩ : ∃ o, ops[61]? = some o := ⟨_, by rw [← hops]; rfl⟩
  have hv := hop61
  rw [← hops] at hv
  simp only [List.getElem?_toArray, List.getElem?_cons_succ, List.getElem?_cons_zero, Option.some.injEq] at hv
  subst hv
  obtain ⟨oo, hop62⟩ : ∃ o, ops[62]? = some o := ⟨_, by rw [← hops]; rfl⟩
  have hv := hop62
  rw [← hops] at hv
  simp only [List.getElem?_toArray, List.getElem?_cons_succ, List.getElem?_cons_zero, Option.some.injEq] at hv
  subst hv
  obtain ⟨oo, hop63⟩ : ∃ o, ops[63]? = some o := ⟨_, by rw [← hops]; rfl⟩
  have hv := hop63
  rw [← hops] at hv
  simp only [List.getElem?_toArray, List.getElem?_cons_succ, List.getElem?_cons_zero, Option.some.injEq] at hv
  subst hv
  obtain ⟨oo, hop64⟩ : ∃ o, ops[64]? = some o := ⟨_, by rw [← hops]; rfl⟩
  have hv := hop64
  rw [← hops] at hv
  simp only [List.getElem?_toArray, List.getElem?_cons_succ, List.getElem?_cons_zero, Option.some.injEq] at hv
  subst hv
  obtain ⟨oo, hop65⟩ : ∃ o, ops[65]? = some o := ⟨_, by rw [← hops]; rfl⟩
  have hv := hop65
  rw [← hops] at hv
  simp only [List.getElem?_toArray, List.getElem?_cons_succ, List.getElem?_cons_zero, Option.some.injEq] at hv
  subst hv
  obtain ⟨oo, hop66⟩ : ∃ o, ops[66]? = some o := ⟨_, by rw [← hops]; rfl⟩
  have hv := hop66
  rw [← hops] at hv
  simp only [List.getElem?_toArray, List.getElem?_cons_succ, List.getElem?_cons_zero, Option.some.injEq] at hv
  subst hv
  have H63 : ∀ (s0 s23 s24 s25 s26 s27 s28 s29 s30 s31 s32 s33 s34 s35 s36 s37 s38 s39 s40 s41 s42 s43 s44 s45 s46 s47 s48 s49 s50 s51 s52 s53 s54 s55 s56 s57 s58 s59 s60 s61 s62 s63 s64 s65 s66 s67 s68 s69 s70 s71 s72 s73 s74 s75 s76 s77 s78 s79 s80 s81 s82 s86 s87 s88 : Value) (X : World), Below W0.heap.size W0 X → wpAnyH Tryz.prog .any ops QQ (fun Z => Below W0.heap.size W0 Z) 4 (fsH 67 63 []) ({ tmps := #[s0, .pointer (some ⟨b1, 0, none⟩), .int .i64 0, u3, .int .i64 110, .pointer (some ⟨b5, 0, none⟩), u6, u7, u8, u9, u10, u11, u12, u13, u14, u15, u16, u17, u18, u19, u20, u21, u22, s23, s24, s25, s26, s27, s28, s29, s30, s31, s32, s33, s34, s35, s36, s37, s38, s39, s40, s41, s42, s43, s44, s45, s46, s47, s48, s49, s50, s51, s52, s53, s54, s55, s56, s57, s58, s59, s60, s61, s62, s63, s64, s65, s66, s67, s68, s69, s70, s71, s72, s73, s74, s75, s76, s77, s78, s79, s80, s81, s82, .bool true, auV (.slice a1 3 c1) (.slice aa 1 ca) 9, auV (.slice none 0 0) (.slice none 0 0) 0, s86, s87, s88], defers := [] }) X := by
    as_aux_lemma =>
    intro s0 s23 s24 s25 s26 s27 s28 s29 s30 s31 s32 s33 s34 s35 s36 s37 s38 s39 s40 s41 s42 s43 s44 s45 s46 s47 s48 s49 s50 s51 s52 s53 s54 s55 s56 s57 s58 s59 s60 s61 s62 s63 s64 s65 s66 s67 s68 s69 s70 s71 s72 s73 s74 s75 s76 s77 s78 s79 s80 s81 s82 s86 s87 s88 X hW'
    refine wpAnyH_all (rs := [63]) (by rw [← hops]; kernel_rfl) (by simp) ?_
    intro ix hix
    simp only [List.mem_cons, List.not_mem_nil, or_false] at hix
    rcases hix with rfl
    · refine held_op hop63 (by rw [← hops]; kernel_rfl) (fun K' hK => ?_)
      go_simp
      refine (D63.out X hW').mono ?_
      rintro e Y ⟨rfl, hb⟩
      dsimp only
      replace hW' := kept_trans hW' hb
      refine hK _ _ ⟨hW', ?_⟩
      clear hK K'
      (try simp only [Act.put, List.setIfInBounds_toArray, List.set_cons_zero, List.set_cons_succ])
      rw [show (fsH 67 63 []).setIfInBounds 63 true = (fsH 67 64 []) from by kernel_rfl]
      refine wpAnyH_take (i := 64) (v := .bool true) hop64 hNS (by rw [← hops]; kernel_rfl) (by rw [← hops]; kernel_rfl) (hQp _ _) (.inl ⟨(by rw [← hops]; kernel_rfl), fun wz hz => by
          have hW' := hz
          first | (go_simp; done) | (obtain ⟨z0, z1, z2, z3, z4, z5⟩ := hF.out _ hW'; go_simp)⟩) hW' ?_
      (try simp only [Act.put, List.setIfInBounds_toArray, List.set_cons_zero, List.set_cons_succ])
      rw [show (fsH 67 64 []).setIfInBounds 64 true = (fsH 67 65 []) from by kernel_rfl]
      refine wpAnyH_take (i := 65) (v := .bool true) hop65 hNS (by rw [← hops]; kernel_rfl) (by rw [← hops]; kernel_rfl) (hQp _ _) (.inl ⟨(by rfl), fun wz hz => by
          have hW' := hz
          first | (go_simp; done) | (obtain ⟨z0, z1, z2, z3, z4, z5⟩ := hF.out _ hW'; go_simp)⟩) hW' ?_
      (try simp only [Act.put, List.setIfInBounds_toArray, List.set_cons_zero, List.set_cons_succ])
      rw [show (fsH 67 65 []).setIfInBounds 65 true = (fsH 67 66 []) from by kernel_rfl]
      refine wpAnyH_take (i := 66) (v := .bool true) hop66 hNS (by rw [← hops]; kernel_rfl) (by rw [← hops]; kernel_rfl) (hQp _ _) (.inl ⟨(by rfl), fun wz hz => by
          have hW' := hz
          first | (go_simp; done) | (obtain ⟨z0, z1, z2, z3, z4, z5⟩ := hF.out _ hW'; go_simp)⟩) hW' ?_
      (try simp only [Act.put, List.setIfInBounds_toArray, List.set_cons_zero, List.set_cons_succ])
      rw [show (fsH 67 66 []).setIfInBounds 66 true = (fsH 67 67 []) from by kernel_rfl]
      refine wpAnyH_done (by rw [← hops]; kernel_rfl) ?_ _
      rw [← hQQ]
      exact NoPanic.normal (hQ0.out _ _ _ _ _ _ _ _ _ _ _ _ _ _ _ _ _ _ _ _ _ _ _ _ _ _ _ _ _ _ _ _ _ _ _ _ _ _ _ _ _ _ _ _ _ _ _ _ _ _ _ _ _ _ _ _ _ _ _ _ _ _ _ _ _ _ _ hW')
  have H58 : ∀ (s0 s23 s24 s25 s26 s27 s28 s29 s30 s31 s32 s33 s34 s35 s36 s37 s38 s39 s40 s41 s42 s43 s44 s45 s46 s47 s48 s49 s50 s51 s52 s53 s54 s55 s56 s57 s58 s59 s60 s61 s62 s63 s64 s65 s66 s67 s68 s69 s70 s71 s72 s73 s74 s75 s76 s78 s81 s82 s83 s84 s85 s86 s87 s88 : Value) (a79 : Option Addr) (c79 : Nat) (e79 : Option Addr) (d79 : Nat) (X : World), Below W0.heap.size W0 X → OwW (.slice a79 3 c79) (.slice e79 1 d79) X → wpAnyH Tryz.prog .any ops QQ (fun Z => Below W0.heap.size W0 Z) 9 (fsH 67 58 []) ({ tmps := #[s0, .pointer (some ⟨b1, 0, none⟩), .int .i64 0, u3, .int .i64 110, .pointer (some ⟨b5, 0, none⟩), u6, u7, u8, u9, u10, u11, u12, u13, u14, u15, u16, u17, u18, u19, u20, u21, u22, s23, s24, s25, s26, s27, s28, s29, s30, s31, s32, s33, s34, s35, s36, s37, s38, s39, s40, s41, s42, s43, s44, s45, s46, s47, s48, s49, s50, s51, s52, s53, s54, s55, s56, s57, s58, s59, s60, s61, s62, s63, s64, s65, s66, s67, s68, s69, s70, s71, s72, s73, s74, s75, s76, .bool true, s78, auV (.slice a79 3 c79) (.slice e79 1 d79) 9, auV (.slice a1 3 c1) (.slice aa 1 ca) 9, s81, s82, s83, s84, s85, s86, s87, s88], defers := [] }) X := by
    as_aux_lemma =>
    intro s0 s23 s24 s25 s26 s27 s28 s29 s30 s31 s32 s33 s34 s35 s36 s37 s38 s39 s40 s41 s42 s43 s44 s45 s46 s47 s48 s49 s50 s51 s52 s53 s54 s55 s56 s57 s58 s59 s60 s61 s62 s63 s64 s65 s66 s67 s68 s69 s70 s71 s72 s73 s74 s75 s76 s78 s81 s82 s83 s84 s85 s86 s87 s88 a79 c79 e79 d79 X hW' f79
    refine wpAnyH_all (rs := [58]) (by rw [← hops]; kernel_rfl) (by simp) ?_
    intro ix hix
    simp only [List.mem_cons, List.not_mem_nil, or_false] at hix
    rcases hix with rfl
    · refine held_op hop58 (by rw [← hops]; kernel_rfl) (fun K' hK => ?_)
      go_simp
      refine (D58.out X _ _ _ _ f79 hW').mono ?_
      rintro e Y ⟨rfl, hb⟩
      dsimp only
      replace hW' := kept_trans hW' hb
      refine hK _ _ ⟨hW', ?_⟩
      clear hK K'
      (try simp only [Act.put, List.setIfInBounds_toArray, List.set_cons_zero, List.set_cons_succ])
      rw [show (fsH 67 58 []).setIfInBounds 58 true = (fsH 67 59 []) from by kernel_rfl]
      refine wpAnyH_take (i := 59) (v := .bool true) hop59 hNS (by rw [← hops]; kernel_rfl) (by rw [← hops]; kernel_rfl) (hQp _ _) (.inl ⟨(by rfl), fun wz hz => by
          have hW' := hz
          first | (go_simp; done) | (obtain ⟨z0, z1, z2, z3, z4, z5⟩ := hF.out _ hW'; go_simp)⟩) hW' ?_
      (try simp only [Act.put, List.setIfInBounds_toArray, List.set_cons_zero, List.set_cons_succ])
      rw [show (fsH 67 59 []).setIfInBounds 59 true = (fsH 67 60 []) from by kernel_rfl]
      refine wpAnyH_take (i := 60) (v := .bool true) hop60 hNS (by rw [← hops]; kernel_rfl) (by rw [← hops]; kernel_rfl) (hQp _ _) (.inl ⟨(by rfl), fun wz hz => by
          have hW' := hz
          first | (go_simp; done) | (obtain ⟨z0, z1, z2, z3, z4, z5⟩ := hF.out _ hW'; go_simp)⟩) hW' ?_
      (try simp only [Act.put, List.setIfInBounds_toArray, List.set_cons_zero, List.set_cons_succ])
      rw [show (fsH 67 60 []).setIfInBounds 60 true = (fsH 67 61 []) from by kernel_rfl]
      refine wpAnyH_take (i := 61) (v := auV (.slice a1 3 c1) (.slice aa 1 ca) 9) hop61 hNS (by rw [← hops]; kernel_rfl) (by rw [← hops]; kernel_rfl) (hQp _ _) (.inl ⟨(by rw [← hops]; kernel_rfl), fun wz hz => by
          have hW' := hz
          first | (go_simp; done) | (obtain ⟨z0, z1, z2, z3, z4, z5⟩ := hF.out _ hW'; go_simp)⟩) hW' ?_
      (try simp only [Act.put, List.setIfInBounds_toArray, List.set_cons_zero, List.set_cons_succ])
      rw [show (fsH 67 61 []).setIfInBounds 61 true = (fsH 67 62 []) from by kernel_rfl]
      refine wpAnyH_take (i := 62) (v := auV (.slice none 0 0) (.slice none 0 0) 0) hop62 hNS (by rw [← hops]; kernel_rfl) (by rw [← hops]; kernel_rfl) (hQp _ _) (.inl ⟨(by rw [← hops]; kernel_rfl), fun wz hz => by
          have hW' := hz
          first | (go_simp; done) | (obtain ⟨z0, z1, z2, z3, z4, z5⟩ := hF.out _ hW'; go_simp)⟩) hW' ?_
      (try simp only [Act.put, List.setIfInBounds_toArray, List.set_cons_zero, List.set_cons_succ])
      rw [show (fsH 67 62 []).setIfInBounds 62 true = (fsH 67 63 []) from by kernel_rfl]
      exact H63 _ _ _ _ _ _ _ _ _ _ _ _ _ _ _ _ _ _ _ _ _ _ _ _ _ _ _ _ _ _ _ _ _ _ _ _ _ _ _ _ _ _ _ _ _ _ _ _ _ _ _ _ _ _ _ _ _ _ _ _ _ _ _ _ _ hW' 
  have H56_57 : ∀ (s0 s23 s24 s25 s26 s27 s28 s29 s30 s31 s32 s33 s34 s35 s36 s37 s38 s39 s40 s41 s42 s43 s44 s45 s46 s47 s48 s49 s50 s51 s52 s53 s54 s55 s56 s57 s58 s59 s60 s61 s62 s63 s64 s65 s66 s67 s68 s69 s70 s71 s72 s73 s74 s75 s76 s79 s81 s82 s83 s84 s85 s86 s87 s88 : Value) (X : World), Below W0.heap.size W0 X → wpAnyH Tryz.prog .any ops QQ (fun Z => Below W0.heap.size W0 Z) 10 (fsH 67 56 [57]) ({ tmps := #[s0, .pointer (some ⟨b1, 0, none⟩), .int .i64 0, u3, .int .i64 110, .pointer (some ⟨b5, 0, none⟩), u6, u7, u8, u9, u10, u11, u12, u13, u14, u15, u16, u17, u18, u19, u20, u21, u22, s23, s24, s25, s26, s27, s28, s29, s30, s31, s32, s33, s34, s35, s36, s37, s38, s39, s40, s41, s42, s43, s44, s45, s46, s47, s48, s49, s50, s51, s52, s53, s54, s55, s56, s57, s58, s59, s60, s61, s62, s63, s64, s65, s66, s67, s68, s69, s70, s71, s72, s73, s74, s75, s76, .bool true, auV (.slice a1 3 c1) (.slice aa 1 ca) 9, s79, auV (.slice a1 3 c1) (.slice aa 1 ca) 9, s81, s82, s83, s84, s85, s86, s87, s88], defers := [] }) X := by
    as_aux_lemma =>
    intro s0 s23 s24 s25 s26 s27 s28 s29 s30 s31 s32 s33 s34 s35 s36 s37 s38 s39 s40 s41 s42 s43 s44 s45 s46 s47 s48 s49 s50 s51 s52 s53 s54 s55 s56 s57 s58 s59 s60 s61 s62 s63 s64 s65 s66 s67 s68 s69 s70 s71 s72 s73 s74 s75 s76 s79 s81 s82 s83 s84 s85 s86 s87 s88 X hW'
    refine wpAnyH_all (rs := [56]) (by rw [← hops]; kernel_rfl) (by simp) ?_
    intro ix hix
    simp only [List.mem_cons, List.not_mem_nil, or_false] at hix
    rcases hix with rfl
    · refine held_op hop56 (by rw [← hops]; kernel_rfl) (fun K' hK => ?_)
      go_simp
      refine (D56.out X hW').mono ?_
      rintro e Y ⟨a79, c79, e79, d79, rfl, f79, hb⟩
      dsimp only
      replace hW' := kept_trans hW' hb
      refine hK _ _ ⟨hW', ?_⟩
      clear hK K'
      (try simp only [Act.put, List.setIfInBounds_toArray, List.set_cons_zero, List.set_cons_succ])
      rw [show (fsH 67 56 [57]).setIfInBounds 56 true = (fsH 67 58 []) from by kernel_rfl]
      exact H58 _ _ _ _ _ _ _ _ _ _ _ _ _ _ _ _ _ _ _ _ _ _ _ _ _ _ _ _ _ _ _ _ _ _ _ _ _ _ _ _ _ _ _ _ _ _ _ _ _ _ _ _ _ _ _ _ _ _ _ _ _ _ _ _ _ _ _ _ _ hW' f79
  have H52 : ∀ (s0 s23 s24 s25 s26 s27 s28 s29 s30 s31 s32 s33 s34 s35 s36 s37 s38 s39 s40 s41 s42 s43 s44 s45 s46 s47 s48 s49 s50 s51 s52 s53 s54 s55 s56 s57 s58 s59 s60 s61 s62 s63 s64 s65 s66 s67 s68 s69 s70 s72 s75 s76 s77 s78 s79 s80 s81 s82 s83 s84 s85 s86 s87 s88 : Value) (v73 : Value) (p74 : Nat) (X : World), Below W0.heap.size W0 X → NmsAt X v73 [2] → NmsAt X (.slice (some ⟨p74, 0, none⟩) 1 1) [2] → wpAnyH Tryz.prog .any ops QQ (fun Z => Below W0.heap.size W0 Z) 15 (fsH 67 52 []) ({ tmps := #[s0, .pointer (some ⟨b1, 0, none⟩), .int .i64 0, u3, .int .i64 110, .pointer (some ⟨b5, 0, none⟩), u6, u7, u8, u9, u10, u11, u12, u13, u14, u15, u16, u17, u18, u19, u20, u21, u22, s23, s24, s25, s26, s27, s28, s29, s30, s31, s32, s33, s34, s35, s36, s37, s38, s39, s40, s41, s42, s43, s44, s45, s46, s47, s48, s49, s50, s51, s52, s53, s54, s55, s56, s57, s58, s59, s60, s61, s62, s63, s64, s65, s66, s67, s68, s69, s70, .bool true, s72, v73, .slice (some ⟨p74, 0, none⟩) 1 1, s75, s76, s77, s78, s79, s80, s81, s82, s83, s84, s85, s86, s87, s88], defers := [] }) X := by
    as_aux_lemma =>
    intro s0 s23 s24 s25 s26 s27 s28 s29 s30 s31 s32 s33 s34 s35 s36 s37 s38 s39 s40 s41 s42 s43 s44 s45 s46 s47 s48 s49 s50 s51 s52 s53 s54 s55 s56 s57 s58 s59 s60 s61 s62 s63 s64 s65 s66 s67 s68 s69 s70 s72 s75 s76 s77 s78 s79 s80 s81 s82 s83 s84 s85 s86 s87 s88 v73 p74 X hW' f73 f74
    refine wpAnyH_all (rs := [52]) (by rw [← hops]; kernel_rfl) (by simp) ?_
    intro ix hix
    simp only [List.mem_cons, List.not_mem_nil, or_false] at hix
    rcases hix with rfl
    · refine held_op hop52 (by rw [← hops]; kernel_rfl) (fun K' hK => ?_)
      go_simp
      refine (intsW X [2] (by simp) f73 f74).mono ?_
      rintro e Y ⟨rfl, hb⟩
      dsimp only
      replace hW' := kept_trans hW' hb
      refine hK _ _ ⟨hW', ?_⟩
      clear hK K'
      (try simp only [Act.put, List.setIfInBounds_toArray, List.set_cons_zero, List.set_cons_succ])
      rw [show (fsH 67 52 []).setIfInBounds 52 true = (fsH 67 53 []) from by kernel_rfl]
      refine wpAnyH_take (i := 53) (v := .bool true) hop53 hNS (by rw [← hops]; kernel_rfl) (by rw [← hops]; kernel_rfl) (hQp _ _) (.inl ⟨(by rfl), fun wz hz => by
          have hW' := hz
          first | (go_simp; done) | (obtain ⟨z0, z1, z2, z3, z4, z5⟩ := hF.out _ hW'; go_simp)⟩) hW' ?_
      (try simp only [Act.put, List.setIfInBounds_toArray, List.set_cons_zero, List.set_cons_succ])
      rw [show (fsH 67 53 []).setIfInBounds 53 true = (fsH 67 54 []) from by kernel_rfl]
      refine wpAnyH_take (i := 54) (v := .bool true) hop54 hNS (by rw [← hops]; kernel_rfl) (by rw [← hops]; kernel_rfl) (hQp _ _) (.inl ⟨(by rfl), fun wz hz => by
          have hW' := hz
          first | (go_simp; done) | (obtain ⟨z0, z1, z2, z3, z4, z5⟩ := hF.out _ hW'; go_simp)⟩) hW' ?_
      (try simp only [Act.put, List.setIfInBounds_toArray, List.set_cons_zero, List.set_cons_succ])
      rw [show (fsH 67 54 []).setIfInBounds 54 true = (fsH 67 55 []) from by kernel_rfl]
      refine wpAnyH_take (i := 55) (v := auV (.slice a1 3 c1) (.slice aa 1 ca) 9) hop55 hNS (by rw [← hops]; kernel_rfl) (by rw [← hops]; kernel_rfl) (hQp _ _) (.inl ⟨(by rw [← hops]; kernel_rfl), fun wz hz => by
          have hW' := hz
          first | (go_simp; done) | (obtain ⟨z0, z1, z2, z3, z4, z5⟩ := hF.out _ hW'; go_simp)⟩) hW' ?_
      (try simp only [Act.put, List.setIfInBounds_toArray, List.set_cons_zero, List.set_cons_succ])
      rw [show (fsH 67 55 []).setIfInBounds 55 true = (fsH 67 56 []) from by kernel_rfl]
      refine wpAnyH_take (i := 57) (v := auV (.slice a1 3 c1) (.slice aa 1 ca) 9) hop57 hNS (by rw [← hops]; kernel_rfl) (by rw [← hops]; kernel_rfl) (hQp _ _) (.inl ⟨(by rw [← hops]; kernel_rfl), fun wz hz => by
          have hW' := hz
          first | (go_simp; done) | (obtain ⟨z0, z1, z2, z3, z4, z5⟩ := hF.out _ hW'; go_simp)⟩) hW' ?_
      (try simp only [Act.put, List.setIfInBounds_toArray, List.set_cons_zero, List.set_cons_succ])
      rw [show (fsH 67 56 []).setIfInBounds 57 true = (fsH 67 56 [57]) from by kernel_rfl]
      exact H56_57 _ _ _ _ _ _ _ _ _ _ _ _ _ _ _ _ _ _ _ _ _ _ _ _ _ _ _ _ _ _ _ _ _ _ _ _ _ _ _ _ _ _ _ _ _ _ _ _ _ _ _ _ _ _ _ _ _ _ _ _ _ _ _ _ _ hW' 
  have H50_51 : ∀ (s0 s23 s24 s25 s26 s27 s28 s29 s30 s31 s32 s33 s34 s35 s36 s37 s38 s39 s40 s41 s42 s43 s44 s45 s46 s47 s48 s49 s50 s51 s52 s53 s54 s55 s56 s57 s58 s59 s60 s61 s62 s63 s64 s65 s66 s67 s68 s69 s70 s73 s75 s76 s77 s78 s79 s80 s81 s82 s83 s84 s85 s86 s87 s88 : Value) (p74 : Nat) (X : World), Below W0.heap.size W0 X → NmsAt X (.slice (some ⟨p74, 0, none⟩) 1 1) [2] → wpAnyH Tryz.prog .any ops QQ (fun Z => Below W0.heap.size W0 Z) 16 (fsH 67 50 [51]) ({ tmps := #[s0, .pointer (some ⟨b1, 0, none⟩), .int .i64 0, u3, .int .i64 110, .pointer (some ⟨b5, 0, none⟩), u6, u7, u8, u9, u10, u11, u12, u13, u14, u15, u16, u17, u18, u19, u20, u21, u22, s23, s24, s25, s26, s27, s28, s29, s30, s31, s32, s33, s34, s35, s36, s37, s38, s39, s40, s41, s42, s43, s44, s45, s46, s47, s48, s49, s50, s51, s52, s53, s54, s55, s56, s57, s58, s59, s60, s61, s62, s63, s64, s65, s66, s67, s68, s69, s70, .bool true, auV (.slice a1 3 c1) (.slice aa 1 ca) 9, s73, .slice (some ⟨p74, 0, none⟩) 1 1, s75, s76, s77, s78, s79, s80, s81, s82, s83, s84, s85, s86, s87, s88], defers := [] }) X := by
    as_aux_lemma =>
    intro s0 s23 s24 s25 s26 s27 s28 s29 s30 s31 s32 s33 s34 s35 s36 s37 s38 s39 s40 s41 s42 s43 s44 s45 s46 s47 s48 s49 s50 s51 s52 s53 s54 s55 s56 s57 s58 s59 s60 s61 s62 s63 s64 s65 s66 s67 s68 s69 s70 s73 s75 s76 s77 s78 s79 s80 s81 s82 s83 s84 s85 s86 s87 s88 p74 X hW' f74
    refine wpAnyH_all (rs := [50]) (by rw [← hops]; kernel_rfl) (by simp) ?_
    intro ix hix
    simp only [List.mem_cons, List.not_mem_nil, or_false] at hix
    rcases hix with rfl
    · refine held_op hop50 (by rw [← hops]; kernel_rfl) (fun K' hK => ?_)
      go_simp
      refine (D50.out X hW').mono ?_
      rintro e Y ⟨v73, rfl, f73, hb⟩
      dsimp only
      replace f74 := f74.later hb
      replace hW' := kept_trans hW' hb
      refine hK _ _ ⟨hW', ?_⟩
      clear hK K'
      (try simp only [Act.put, List.setIfInBounds_toArray, List.set_cons_zero, List.set_cons_succ])
      rw [show (fsH 67 50 [51]).setIfInBounds 50 true = (fsH 67 52 []) from by kernel_rfl]
      exact H52 _ _ _ _ _ _ _ _ _ _ _ _ _ _ _ _ _ _ _ _ _ _ _ _ _ _ _ _ _ _ _ _ _ _ _ _ _ _ _ _ _ _ _ _ _ _ _ _ _ _ _ _ _ _ _ _ _ _ _ _ _ _ _ _ _ _ _ hW' f73 f74
  have H51 : ∀ (s0 s23 s24 s25 s26 s27 s28 s29 s30 s31 s32 s33 s34 s35 s36 s37 s38 s39 s40 s41 s42 s43 s44 s45 s46 s47 s48 s49 s50 s51 s52 s53 s54 s55 s56 s57 s58 s59 s60 s61 s62 s63 s64 s65 s66 s67 s68 s69 s70 s72 s74 s75 s76 s77 s78 s79 s80 s81 s82 s83 s84 s85 s86 s87 s88 : Value) (v73 : Value) (X : World), Below W0.heap.size W0 X → NmsAt X v73 [2] → wpAnyH Tryz.prog .any ops QQ (fun Z => Below W0.heap.size W0 Z) 16 (fsH 67 51 []) ({ tmps := #[s0, .pointer (some ⟨b1, 0, none⟩), .int .i64 0, u3, .int .i64 110, .pointer (some ⟨b5, 0, none⟩), u6, u7, u8, u9, u10, u11, u12, u13, u14, u15, u16, u17, u18, u19, u20, u21, u22, s23, s24, s25, s26, s27, s28, s29, s30, s31, s32, s33, s34, s35, s36, s37, s38, s39, s40, s41, s42, s43, s44, s45, s46, s47, s48, s49, s50, s51, s52, s53, s54, s55, s56, s57, s58, s59, s60, s61, s62, s63, s64, s65, s66, s67, s68, s69, s70, .bool true, s72, v73, s74, s75, s76, s77, s78, s79, s80, s81, s82, s83, s84, s85, s86, s87, s88], defers := [] }) X := by
    as_aux_lemma =>
    intro s0 s23 s24 s25 s26 s27 s28 s29 s30 s31 s32 s33 s34 s35 s36 s37 s38 s39 s40 s41 s42 s43 s44 s45 s46 s47 s48 s49 s50 s51 s52 s53 s54 s55 s56 s57 s58 s59 s60 s61 s62 s63 s64 s65 s66 s67 s68 s69 s70 s72 s74 s75 s76 s77 s78 s79 s80 s81 s82 s83 s84 s85 s86 s87 s88 v73 X hW' f73
    refine wpAnyH_all (rs := [51]) (by rw [← hops]; kernel_rfl) (by simp) ?_
    intro ix hix
    simp only [List.mem_cons, List.not_mem_nil, or_false] at hix
    rcases hix with rfl
    · refine held_op hop51 (by rw [← hops]; kernel_rfl) (fun K' hK => ?_)
      go_simp
      have f74 : NmsAt (X.alloc (.cells #[.int .i64 2] 3)) (.slice (some ⟨X.heap.size, 0, none⟩) 1 1) [2] := lit_at X [2]
      replace f73 := f73.later (kept_new X (.cells #[.int .i64 2] 3))
      replace hW' := kept_trans hW' (kept_new X (.cells #[.int .i64 2] 3))
      refine hK _ _ ⟨hW', ?_⟩
      clear hK K'
      (try simp only [Act.put, List.setIfInBounds_toArray, List.set_cons_zero, List.set_cons_succ])
      rw [show (fsH 67 51 []).setIfInBounds 51 true = (fsH 67 52 []) from by kernel_rfl]
      exact H52 _ _ _ _ _ _ _ _ _ _ _ _ _ _ _ _ _ _ _ _ _ _ _ _ _ _ _ _ _ _ _ _ _ _ _ _ _ _ _ _ _ _ _ _ _ _ _ _ _ _ _ _ _ _ _ _ _ _ _ _ _ _ _ _ _ _ _ hW' f73 f74
  have H50 : ∀ (s0 s23 s24 s25 s26 s27 s28 s29 s30 s31 s32 s33 s34 s35 s36 s37 s38 s39 s40 s41 s42 s43 s44 s45 s46 s47 s48 s49 s50 s51 s52 s53 s54 s55 s56 s57 s58 s59 s60 s61 s62 s63 s64 s65 s66 s67 s68 s69 s70 s73 s74 s75 s76 s77 s78 s79 s80 s81 s82 s83 s84 s85 s86 s87 s88 : Value) (X : World), Below W0.heap.size W0 X → wpAnyH Tryz.prog .any ops QQ (fun Z => Below W0.heap.size W0 Z) 17 (fsH 67 50 []) ({ tmps := #[s0, .pointer (some ⟨b1, 0, none⟩), .int .i64 0, u3, .int .i64 110, .pointer (some ⟨b5, 0, none⟩), u6, u7, u8, u9, u10, u11, u12, u13, u14, u15, u16, u17, u18, u19, u20, u21, u22, s23, s24, s25, s26, s27, s28, s29, s30, s31, s32, s33, s34, s35, s36, s37, s38, s39, s40, s41, s42, s43, s44, s45, s46, s47, s48, s49, s50, s51, s52, s53, s54, s55, s56, s57, s58, s59, s60, s61, s62, s63, s64, s65, s66, s67, s68, s69, s70, .bool true, auV (.slice a1 3 c1) (.slice aa 1 ca) 9, s73, s74, s75, s76, s77, s78, s79, s80, s81, s82, s83, s84, s85, s86, s87, s88], defers := [] }) X := by
    as_aux_lemma =>
    intro s0 s23 s24 s25 s26 s27 s28 s29 s30 s31 s32 s33 s34 s35 s36 s37 s38 s39 s40 s41 s42 s43 s44 s45 s46 s47 s48 s49 s50 s51 s52 s53 s54 s55 s56 s57 s58 s59 s60 s61 s62 s63 s64 s65 s66 s67 s68 s69 s70 s73 s74 s75 s76 s77 s78 s79 s80 s81 s82 s83 s84 s85 s86 s87 s88 X hW'
    refine wpAnyH_all (rs := [50, 51]) (by rw [← hops]; kernel_rfl) (by simp) ?_
    intro ix hix
    simp only [List.mem_cons, List.not_mem_nil, or_false] at hix
    rcases hix with rfl | rfl
    · refine held_op hop50 (by rw [← hops]; kernel_rfl) (fun K' hK => ?_)
      go_simp
      refine (D50.out X hW').mono ?_
      rintro e Y ⟨v73, rfl, f73, hb⟩
      dsimp only
      replace hW' := kept_trans hW' hb
      refine hK _ _ ⟨hW', ?_⟩
      clear hK K'
      (try simp only [Act.put, List.setIfInBounds_toArray, List.set_cons_zero, List.set_cons_succ])
      rw [show (fsH 67 50 []).setIfInBounds 50 true = (fsH 67 51 []) from by kernel_rfl]
      exact H51 _ _ _ _ _ _ _ _ _ _ _ _ _ _ _ _ _ _ _ _ _ _ _ _ _ _ _ _ _ _ _ _ _ _ _ _ _ _ _ _ _ _ _ _ _ _ _ _ _ _ _ _ _ _ _ _ _ _ _ _ _ _ _ _ _ _ _ hW' f73
    · refine held_op hop51 (by rw [← hops]; kernel_rfl) (fun K' hK => ?_)
      go_simp
      have f74 : NmsAt (X.alloc (.cells #[.int .i64 2] 3)) (.slice (some ⟨X.heap.size, 0, none⟩) 1 1) [2] := lit_at X [2]
      replace hW' := kept_trans hW' (kept_new X (.cells #[.int .i64 2] 3))
      refine hK _ _ ⟨hW', ?_⟩
      clear hK K'
      (try simp only [Act.put, List.setIfInBounds_toArray, List.set_cons_zero, List.set_cons_succ])
      rw [show (fsH 67 50 []).setIfInBounds 51 true = (fsH 67 50 [51]) from by kernel_rfl]
      exact H50_51 _ _ _ _ _ _ _ _ _ _ _ _ _ _ _ _ _ _ _ _ _ _ _ _ _ _ _ _ _ _ _ _ _ _ _ _ _ _ _ _ _ _ _ _ _ _ _ _ _ _ _ _ _ _ _ _ _ _ _ _ _ _ _ _ _ _ hW' f74
  have H46 : ∀ (s0 s23 s24 s25 s26 s27 s28 s29 s30 s31 s32 s33 s34 s35 s36 s37 s38 s39 s40 s41 s42 s43 s44 s45 s46 s47 s48 s49 s50 s51 s52 s53 s54 s55 s56 s57 s58 s59 s60 s61 s62 s63 s64 s66 s69 s70 s71 s72 s73 s74 s75 s76 s77 s78 s79 s80 s81 s82 s83 s84 s85 s86 s87 s88 : Value) (v67 : Value) (p68 : Nat) (X : World), Below W0.heap.size W0 X → NmsAt X v67 [0] → NmsAt X (.slice (some ⟨p68, 0, none⟩) 1 1) [0] → wpAnyH Tryz.prog .any ops QQ (fun Z => Below W0.heap.size W0 Z) 21 (fsH 67 46 []) ({ tmps := #[s0, .pointer (some ⟨b1, 0, none⟩), .int .i64 0, u3, .int .i64 110, .pointer (some ⟨b5, 0, none⟩), u6, u7, u8, u9, u10, u11, u12, u13, u14, u15, u16, u17, u18, u19, u20, u21, u22, s23, s24, s25, s26, s27, s28, s29, s30, s31, s32, s33, s34, s35, s36, s37, s38, s39, s40, s41, s42, s43, s44, s45, s46, s47, s48, s49, s50, s51, s52, s53, s54, s55, s56, s57, s58, s59, s60, s61, s62, s63, s64, .bool true, s66, v67, .slice (some ⟨p68, 0, none⟩) 1 1, s69, s70, s71, s72, s73, s74, s75, s76, s77, s78, s79, s80, s81, s82, s83, s84, s85, s86, s87, s88], defers := [] }) X := by
    as_aux_lemma =>
    intro s0 s23 s24 s25 s26 s27 s28 s29 s30 s31 s32 s33 s34 s35 s36 s37 s38 s39 s40 s41 s42 s43 s44 s45 s46 s47 s48 s49 s50 s51 s52 s53 s54 s55 s56 s57 s58 s59 s60 s61 s62 s63 s64 s66 s69 s70 s71 s72 s73 s74 s75 s76 s77 s78 s79 s80 s81 s82 s83 s84 s85 s86 s87 s88 v67 p68 X hW' f67 f68
    refine wpAnyH_all (rs := [46]) (by rw [← hops]; kernel_rfl) (by simp) ?_
    intro ix hix
    simp only [List.mem_cons, List.not_mem_nil, or_false] at hix
    rcases hix with rfl
    · refine held_op hop46 (by rw [← hops]; kernel_rfl) (fun K' hK => ?_)
      go_simp
      refine (intsW X [0] (by simp) f67 f68).mono ?_
      rintro e Y ⟨rfl, hb⟩
      dsimp only
      replace hW' := kept_trans hW' hb
      refine hK _ _ ⟨hW', ?_⟩
      clear hK K'
      (try simp only [Act.put, List.setIfInBounds_toArray, List.set_cons_zero, List.set_cons_succ])
      rw [show (fsH 67 46 []).setIfInBounds 46 true = (fsH 67 47 []) from by kernel_rfl]
      refine wpAnyH_take (i := 47) (v := .bool true) hop47 hNS (by rw [← hops]; kernel_rfl) (by rw [← hops]; kernel_rfl) (hQp _ _) (.inl ⟨(by rfl), fun wz hz => by
          have hW' := hz
          first | (go_simp; done) | (obtain ⟨z0, z1, z2, z3, z4, z5⟩ := hF.out _ hW'; go_simp)⟩) hW' ?_
      (try simp only [Act.put, List.setIfInBounds_toArray, List.set_cons_zero, List.set_cons_succ])
      rw [show (fsH 67 47 []).setIfInBounds 47 true = (fsH 67 48 []) from by kernel_rfl]
      refine wpAnyH_take (i := 48) (v := .bool true) hop48 hNS (by rw [← hops]; kernel_rfl) (by rw [← hops]; kernel_rfl) (hQp _ _) (.inl ⟨(by rfl), fun wz hz => by
          have hW' := hz
          first | (go_simp; done) | (obtain ⟨z0, z1, z2, z3, z4, z5⟩ := hF.out _ hW'; go_simp)⟩) hW' ?_
      (try simp only [Act.put, List.setIfInBounds_toArray, List.set_cons_zero, List.set_cons_succ])
      rw [show (fsH 67 48 []).setIfInBounds 48 true = (fsH 67 49 []) from by kernel_rfl]
      refine wpAnyH_take (i := 49) (v := auV (.slice a1 3 c1) (.slice aa 1 ca) 9) hop49 hNS (by rw [← hops]; kernel_rfl) (by rw [← hops]; kernel_rfl) (hQp _ _) (.inl ⟨(by rw [← hops]; kernel_rfl), fun wz hz => by
          have hW' := hz
          first | (go_simp; done) | (obtain ⟨z0, z1, z2, z3, z4, z5⟩ := hF.out _ hW'; go_simp)⟩) hW' ?_
      (try simp only [Act.put, List.setIfInBounds_toArray, List.set_cons_zero, List.set_cons_succ])
      rw [show (fsH 67 49 []).setIfInBounds 49 true = (fsH 67 50 []) from by kernel_rfl]
      exact H50 _ _ _ _ _ _ _ _ _ _ _ _ _ _ _ _ _ _ _ _ _ _ _ _ _ _ _ _ _ _ _ _ _ _ _ _ _ _ _ _ _ _ _ _ _ _ _ _ _ _ _ _ _ _ _ _ _ _ _ _ _ _ _ _ _ _ hW' 
  have H44_45 : ∀ (s0 s23 s24 s25 s26 s27 s28 s29 s30 s31 s32 s33 s34 s35 s36 s37 s38 s39 s40 s41 s42 s43 s44 s45 s46 s47 s48 s49 s50 s51 s52 s53 s54 s55 s56 s57 s58 s59 s60 s61 s62 s63 s64 s67 s69 s70 s71 s72 s73 s74 s75 s76 s77 s78 s79 s80 s81 s82 s83 s84 s85 s86 s87 s88 : Value) (p68 : Nat) (X : World), Below W0.heap.size W0 X → NmsAt X (.slice (some ⟨p68, 0, none⟩) 1 1) [0] → wpAnyH Tryz.prog .any ops QQ (fun Z => Below W0.heap.size W0 Z) 22 (fsH 67 44 [45]) ({ tmps := #[s0, .pointer (some ⟨b1, 0, none⟩), .int .i64 0, u3, .int .i64 110, .pointer (some ⟨b5, 0, none⟩), u6, u7, u8, u9, u10, u11, u12, u13, u14, u15, u16, u17, u18, u19, u20, u21, u22, s23, s24, s25, s26, s27, s28, s29, s30, s31, s32, s33, s34, s35, s36, s37, s38, s39, s40, s41, s42, s43, s44, s45, s46, s47, s48, s49, s50, s51, s52, s53, s54, s55, s56, s57, s58, s59, s60, s61, s62, s63, s64, .bool true, auV (.slice a1 3 c1) (.slice aa 1 ca) 9, s67, .slice (some ⟨p68, 0, none⟩) 1 1, s69, s70, s71, s72, s73, s74, s75, s76, s77, s78, s79, s80, s81, s82, s83, s84, s85, s86, s87, s88], defers := [] }) X := by
    as_aux_lemma =>
    intro s0 s23 s24 s25 s26 s27 s28 s29 s30 s31 s32 s33 s34 s35 s36 s37 s38 s39 s40 s41 s42 s43 s44 s45 s46 s47 s48 s49 s50 s51 s52 s53 s54 s55 s56 s57 s58 s59 s60 s61 s62 s63 s64 s67 s69 s70 s71 s72 s73 s74 s75 s76 s77 s78 s79 s80 s81 s82 s83 s84 s85 s86 s87 s88 p68 X hW' f68
    refine wpAnyH_all (rs := [44]) (by rw [← hops]; kernel_rfl) (by simp) ?_
    intro ix hix
    simp only [List.mem_cons, List.not_mem_nil, or_false] at hix
    rcases hix with rfl
    · refine held_op hop44 (by rw [← hops]; kernel_rfl) (fun K' hK => ?_)
      go_simp
      refine (D44.out X hW').mono ?_
      rintro e Y ⟨v67, rfl, f67, hb⟩
      dsimp only
      replace f68 := f68.later hb
      replace hW' := kept_trans hW' hb
      refine hK _ _ ⟨hW', ?_⟩
      clear hK K'
      (try simp only [Act.put, List.setIfInBounds_toArray, List.set_cons_zero, List.set_cons_succ])
      rw [show (fsH 67 44 [45]).setIfInBounds 44 true = (fsH 67 46 []) from by kernel_rfl]
      exact H46 _ _ _ _ _ _ _ _ _ _ _ _ _ _ _ _ _ _ _ _ _ _ _ _ _ _ _ _ _ _ _ _ _ _ _ _ _ _ _ _ _ _ _ _ _ _ _ _ _ _ _ _ _ _ _ _ _ _ _ _ _ _ _ _ _ _ _ hW' f67 f68
  have H45 : ∀ (s0 s23 s24 s25 s26 s27 s28 s29 s30 s31 s32 s33 s34 s35 s36 s37 s38 s39 s40 s41 s42 s43 s44 s45 s46 s47 s48 s49 s50 s51 s52 s53 s54 s55 s56 s57 s58 s59 s60 s61 s62 s63 s64 s66 s68 s69 s70 s71 s72 s73 s74 s75 s76 s77 s78 s79 s80 s81 s82 s83 s84 s85 s86 s87 s88 : Value) (v67 : Value) (X : World), Below W0.heap.size W0 X → NmsAt X v67 [0] → wpAnyH Tryz.prog .any ops QQ (fun Z => Below W0.heap.size W0 Z) 22 (fsH 67 45 []) ({ tmps := #[s0, .pointer (some ⟨b1, 0, none⟩), .int .i64 0, u3, .int .i64 110, .pointer (some ⟨b5, 0, none⟩), u6, u7, u8, u9, u10, u11, u12, u13, u14, u15, u16, u17, u18, u19, u20, u21, u22, s23, s24, s25, s26, s27, s28, s29, s30, s31, s32, s33, s34, s35, s36, s37, s38, s39, s40, s41, s42, s43, s44, s45, s46, s47, s48, s49, s50, s51, s52, s53, s54, s55, s56, s57, s58, s59, s60, s61, s62, s63, s64, .bool true, s66, v67, s68, s69, s70, s71, s72, s73, s74, s75, s76, s77, s78, s79, s80, s81, s82, s83, s84, s85, s86, s87, s88], defers := [] }) X := by
    as_aux_lemma =>
    intro s0 s23 s24 s25 s26 s27 s28 s29 s30 s31 s32 s33 s34 s35 s36 s37 s38 s39 s40 s41 s42 s43 s44 s45 s46 s47 s48 s49 s50 s51 s52 s53 s54 s55 s56 s57 s58 s59 s60 s61 s62 s63 s64 s66 s68 s69 s70 s71 s72 s73 s74 s75 s76 s77 s78 s79 s80 s81 s82 s83 s84 s85 s86 s87 s88 v67 X hW' f67
    refine wpAnyH_all (rs := [45]) (by rw [← hops]; kernel_rfl) (by simp) ?_
    intro ix hix
    simp only [List.mem_cons, List.not_mem_nil, or_false] at hix
    rcases hix with rfl
    · refine held_op hop45 (by rw [← hops]; kernel_rfl) (fun K' hK => ?_)
      go_simp
      have f68 : NmsAt (X.alloc (.cells #[.int .i64 0] 3)) (.slice (some ⟨X.heap.size, 0, none⟩) 1 1) [0] := lit_at X [0]
      replace f67 := f67.later (kept_new X (.cells #[.int .i64 0] 3))
      replace hW' := kept_trans hW' (kept_new X (.cells #[.int .i64 0] 3))
      refine hK _ _ ⟨hW', ?_⟩
      clear hK K'
      (try simp only [Act.put, List.setIfInBounds_toArray, List.set_cons_zero, List.set_cons_succ])
      rw [show (fsH 67 45 []).setIfInBounds 45 true = (fsH 67 46 []) from by kernel_rfl]
      exact H46 _ _ _ _ _ _ _ _ _ _ _ _ _ _ _ _ _ _ _ _ _ _ _ _ _ _ _ _ _ _ _ _ _ _ _ _ _ _ _ _ _ _ _ _ _ _ _ _ _ _ _ _ _ _ _ _ _ _ _ _ _ _ _ _ _ _ _ hW' f67 f68
  have H44 : ∀ (s0 s23 s24 s25 s26 s27 s28 s29 s30 s31 s32 s33 s34 s35 s36 s37 s38 s39 s40 s41 s42 s43 s44 s45 s46 s47 s48 s49 s50 s51 s52 s53 s54 s55 s56 s57 s58 s59 s60 s61 s62 s63 s64 s67 s68 s69 s70 s71 s72 s73 s74 s75 s76 s77 s78 s79 s80 s81 s82 s83 s84 s85 s86 s87 s88 : Value) (X : World), Below W0.heap.size W0 X → wpAnyH Tryz.prog .any ops QQ (fun Z => Below W0.heap.size W0 Z) 23 (fsH 67 44 []) ({ tmps := #[s0, .pointer (some ⟨b1, 0, none⟩), .int .i64 0, u3, .int .i64 110, .pointer (some ⟨b5, 0, none⟩), u6, u7, u8, u9, u10, u11, u12, u13, u14, u15, u16, u17, u18, u19, u20, u21, u22, s23, s24, s25, s26, s27, s28, s29, s30, s31, s32, s33, s34, s35, s36, s37, s38, s39, s40, s41, s42, s43, s44, s45, s46, s47, s48, s49, s50, s51, s52, s53, s54, s55, s56, s57, s58, s59, s60, s61, s62, s63, s64, .bool true, auV (.slice a1 3 c1) (.slice aa 1 ca) 9, s67, s68, s69, s70, s71, s72, s73, s74, s75, s76, s77, s78, s79, s80, s81, s82, s83, s84, s85, s86, s87, s88], defers := [] }) X := by
    as_aux_lemma =>
    intro s0 s23 s24 s25 s26 s27 s28 s29 s30 s31 s32 s33 s34 s35 s36 s37 s38 s39 s40 s41 s42 s43 s44 s45 s46 s47 s48 s49 s50 s51 s52 s53 s54 s55 s56 s57 s58 s59 s60 s61 s62 s63 s64 s67 s68 s69 s70 s71 s72 s73 s74 s75 s76 s77 s78 s79 s80 s81 s82 s83 s84 s85 s86 s87 s88 X hW'
    refine wpAnyH_all (rs := [44, 45]) (by rw [← hops]; kernel_rfl) (by simp) ?_
    intro ix hix
    simp only [List.mem_cons, List.not_mem_nil, or_false] at hix
    rcases hix with rfl | rfl
    · refine held_op hop44 (by rw [← hops]; kernel_rfl) (fun K' hK => ?_)
      go_simp
      refine (D44.out X hW').mono ?_
      rintro e Y ⟨v67, rfl, f67, hb⟩
      dsimp only
      replace hW' := kept_trans hW' hb
      refine hK _ _ ⟨hW', ?_⟩
      clear hK K'
      (try simp only [Act.put, List.setIfInBounds_toArray, List.set_cons_zero, List.set_cons_succ])
      rw [show (fsH 67 44 []).setIfInBounds 44 true = (fsH 67 45 []) from by kernel_rfl]
      exact H45 _ _ _ _ _ _ _ _ _ _ _ _ _ _ _ _ _ _ _ _ _ _ _ _ _ _ _ _ _ _ _ _ _ _ _ _ _ _ _ _ _ _ _ _ _ _ _ _ _ _ _ _ _ _ _ _ _ _ _ _ _ _ _ _ _ _ _ hW' f67
    · refine held_op hop45 (by rw [← hops]; kernel_rfl) (fun K' hK => ?_)
      go_simp
      have f68 : NmsAt (X.alloc (.cells #[.int .i64 0] 3)) (.slice (some ⟨X.heap.size, 0, none⟩) 1 1) [0] := lit_at X [0]
      replace hW' := kept_trans hW' (kept_new X (.cells #[.int .i64 0] 3))
      refine hK _ _ ⟨hW', ?_⟩
      clear hK K'
      (try simp only [Act.put, List.setIfInBounds_toArray, List.set_cons_zero, List.set_cons_succ])
      rw [show (fsH 67 44 []).setIfInBounds 45 true = (fsH 67 44 [45]) from by kernel_rfl]
      exact H44_45 _ _ _ _ _ _ _ _ _ _ _ _ _ _ _ _ _ _ _ _ _ _ _ _ _ _ _ _ _ _ _ _ _ _ _ _ _ _ _ _ _ _ _ _ _ _ _ _ _ _ _ _ _ _ _ _ _ _ _ _ _ _ _ _ _ _ hW' f68
  have H38 : ∀ (s0 s23 s24 s25 s26 s27 s28 s29 s30 s31 s32 s33 s34 s35 s36 s37 s38 s39 s40 s41 s42 s43 s44 s45 s46 s47 s48 s49 s50 s51 s52 s53 s54 s55 s56 s57 s58 s61 s62 s63 s64 s65 s66 s67 s68 s69 s70 s71 s72 s73 s74 s75 s76 s77 s78 s79 s80 s81 s82 s83 s84 s85 s86 s87 s88 : Value) (X : World), Below W0.heap.size W0 X → wpAnyH Tryz.prog .any ops QQ (fun Z => Below W0.heap.size W0 Z) 29 (fsH 67 38 []) ({ tmps := #[s0, .pointer (some ⟨b1, 0, none⟩), .int .i64 0, u3, .int .i64 110, .pointer (some ⟨b5, 0, none⟩), u6, u7, u8, u9, u10, u11, u12, u13, u14, u15, u16, u17, u18, u19, u20, u21, u22, s23, s24, s25, s26, s27, s28, s29, s30, s31, s32, s33, s34, s35, s36, s37, s38, s39, s40, s41, s42, s43, s44, s45, s46, s47, s48, s49, s50, s51, s52, s53, s54, s55, s56, s57, s58, .bool true, auV (.slice a1 3 c1) (.slice aa 1 ca) 9, s61, s62, s63, s64, s65, s66, s67, s68, s69, s70, s71, s72, s73, s74, s75, s76, s77, s78, s79, s80, s81, s82, s83, s84, s85, s86, s87, s88], defers := [] }) X := by
    as_aux_lemma =>
    intro s0 s23 s24 s25 s26 s27 s28 s29 s30 s31 s32 s33 s34 s35 s36 s37 s38 s39 s40 s41 s42 s43 s44 s45 s46 s47 s48 s49 s50 s51 s52 s53 s54 s55 s56 s57 s58 s61 s62 s63 s64 s65 s66 s67 s68 s69 s70 s71 s72 s73 s74 s75 s76 s77 s78 s79 s80 s81 s82 s83 s84 s85 s86 s87 s88 X hW'
    refine wpAnyH_all (rs := [38]) (by rw [← hops]; kernel_rfl) (by simp) ?_
    intro ix hix
    simp only [List.mem_cons, List.not_mem_nil, or_false] at hix
    rcases hix with rfl
    · refine held_op hop38 (by rw [← hops]; kernel_rfl) (fun K' hK => ?_)
      go_simp
      refine (D38.out X hW').mono ?_
      rintro e Y ⟨a61, c61, rfl, hb⟩
      dsimp only
      replace hW' := kept_trans hW' hb
      refine hK _ _ ⟨hW', ?_⟩
      clear hK K'
      (try simp only [Act.put, List.setIfInBounds_toArray, List.set_cons_zero, List.set_cons_succ])
      rw [show (fsH 67 38 []).setIfInBounds 38 true = (fsH 67 39 []) from by kernel_rfl]
      refine wpAnyH_take (i := 39) (v := .int .i64 0) hop39 hNS (by rw [← hops]; kernel_rfl) (by rw [← hops]; kernel_rfl) (hQp _ _) (.inl ⟨(by rw [← hops]; kernel_rfl), fun wz hz => by
          have hW' := hz
          first | (go_simp; done) | (obtain ⟨z0, z1, z2, z3, z4, z5⟩ := hF.out _ hW'; go_simp)⟩) hW' ?_
      (try simp only [Act.put, List.setIfInBounds_toArray, List.set_cons_zero, List.set_cons_succ])
      rw [show (fsH 67 39 []).setIfInBounds 39 true = (fsH 67 40 []) from by kernel_rfl]
      refine wpAnyH_take (i := 40) (v := .bool true) hop40 hNS (by rw [← hops]; kernel_rfl) (by rw [← hops]; kernel_rfl) (hQp _ _) (.inl ⟨(by rw [← hops]; kernel_rfl), fun wz hz => by
          have hW' := hz
          first | (go_simp; done) | (obtain ⟨z0, z1, z2, z3, z4, z5⟩ := hF.out _ hW'; go_simp)⟩) hW' ?_
      (try simp only [Act.put, List.setIfInBounds_toArray, List.set_cons_zero, List.set_cons_succ])
      rw [show (fsH 67 40 []).setIfInBounds 40 true = (fsH 67 41 []) from by kernel_rfl]
      refine wpAnyH_take (i := 41) (v := .bool true) hop41 hNS (by rw [← hops]; kernel_rfl) (by rw [← hops]; kernel_rfl) (hQp _ _) (.inl ⟨(by rfl), fun wz hz => by
          have hW' := hz
          first | (go_simp; done) | (obtain ⟨z0, z1, z2, z3, z4, z5⟩ := hF.out _ hW'; go_simp)⟩) hW' ?_
      (try simp only [Act.put, List.setIfInBounds_toArray, List.set_cons_zero, List.set_cons_succ])
      rw [show (fsH 67 41 []).setIfInBounds 41 true = (fsH 67 42 []) from by kernel_rfl]
      refine wpAnyH_take (i := 42) (v := .bool true) hop42 hNS (by rw [← hops]; kernel_rfl) (by rw [← hops]; kernel_rfl) (hQp _ _) (.inl ⟨(by rfl), fun wz hz => by
          have hW' := hz
          first | (go_simp; done) | (obtain ⟨z0, z1, z2, z3, z4, z5⟩ := hF.out _ hW'; go_simp)⟩) hW' ?_
      (try simp only [Act.put, List.setIfInBounds_toArray, List.set_cons_zero, List.set_cons_succ])
      rw [show (fsH 67 42 []).setIfInBounds 42 true = (fsH 67 43 []) from by kernel_rfl]
      refine wpAnyH_take (i := 43) (v := auV (.slice a1 3 c1) (.slice aa 1 ca) 9) hop43 hNS (by rw [← hops]; kernel_rfl) (by rw [← hops]; kernel_rfl) (hQp _ _) (.inl ⟨(by rw [← hops]; kernel_rfl), fun wz hz => by
          have hW' := hz
          first | (go_simp; done) | (obtain ⟨z0, z1, z2, z3, z4, z5⟩ := hF.out _ hW'; go_simp)⟩) hW' ?_
      (try simp only [Act.put, List.setIfInBounds_toArray, List.set_cons_zero, List.set_cons_succ])
      rw [show (fsH 67 43 []).setIfInBounds 43 true = (fsH 67 44 []) from by kernel_rfl]
      exact H44 _ _ _ _ _ _ _ _ _ _ _ _ _ _ _ _ _ _ _ _ _ _ _ _ _ _ _ _ _ _ _ _ _ _ _ _ _ _ _ _ _ _ _ _ _ _ _ _ _ _ _ _ _ _ _ _ _ _ _ _ _ _ _ _ _ _ hW' 
  have H34 : ∀ (s0 s23 s24 s25 s26 s27 s28 s29 s30 s31 s32 s33 s34 s35 s36 s37 s38 s39 s40 s41 s42 s43 s44 s45 s46 s47 s48 s49 s50 s51 s52 s54 s57 s58 s59 s60 s61 s62 s63 s64 s65 s66 s67 s68 s69 s70 s71 s72 s73 s74 s75 s76 s77 s78 s79 s80 s81 s82 s83 s84 s85 s86 s87 s88 : Value) (v55 : Value) (p56 : Nat) (X : World), Below W0.heap.size W0 X → NmsAt X v55 [0, 2, 2] → NmsAt X (.slice (some ⟨p56, 0, none⟩) 3 3) [0, 2, 2] → wpAnyH Tryz.prog .any ops QQ (fun Z => Below W0.heap.size W0 Z) 33 (fsH 67 34 []) ({ tmps := #[s0, .pointer (some ⟨b1, 0, none⟩), .int .i64 0, u3, .int .i64 110, .pointer (some ⟨b5, 0, none⟩), u6, u7, u8, u9, u10, u11, u12, u13, u14, u15, u16, u17, u18, u19, u20, u21, u22, s23, s24, s25, s26, s27, s28, s29, s30, s31, s32, s33, s34, s35, s36, s37, s38, s39, s40, s41, s42, s43, s44, s45, s46, s47, s48, s49, s50, s51, s52, .bool true, s54, v55, .slice (some ⟨p56, 0, none⟩) 3 3, s57, s58, s59, s60, s61, s62, s63, s64, s65, s66, s67, s68, s69, s70, s71, s72, s73, s74, s75, s76, s77, s78, s79, s80, s81, s82, s83, s84, s85, s86, s87, s88], defers := [] }) X := by
    as_aux_lemma =>
    intro s0 s23 s24 s25 s26 s27 s28 s29 s30 s31 s32 s33 s34 s35 s36 s37 s38 s39 s40 s41 s42 s43 s44 s45 s46 s47 s48 s49 s50 s51 s52 s54 s57 s58 s59 s60 s61 s62 s63 s64 s65 s66 s67 s68 s69 s70 s71 s72 s73 s74 s75 s76 s77 s78 s79 s80 s81 s82 s83 s84 s85 s86 s87 s88 v55 p56 X hW' f55 f56
    refine wpAnyH_all (rs := [34]) (by rw [← hops]; kernel_rfl) (by simp) ?_
    intro ix hix
    simp only [List.mem_cons, List.not_mem_nil, or_false] at hix
    rcases hix with rfl
    · refine held_op hop34 (by rw [← hops]; kernel_rfl) (fun K' hK => ?_)
      go_simp
      refine (intsW X [0, 2, 2] (by simp) f55 f56).mono ?_
      rintro e Y ⟨rfl, hb⟩
      dsimp only
      replace hW' := kept_trans hW' hb
      refine hK _ _ ⟨hW', ?_⟩
      clear hK K'
      (try simp only [Act.put, List.setIfInBounds_toArray, List.set_cons_zero, List.set_cons_succ])
      rw [show (fsH 67 34 []).setIfInBounds 34 true = (fsH 67 35 []) from by kernel_rfl]
      refine wpAnyH_take (i := 35) (v := .bool true) hop35 hNS (by rw [← hops]; kernel_rfl) (by rw [← hops]; kernel_rfl) (hQp _ _) (.inl ⟨(by rfl), fun wz hz => by
          have hW' := hz
          first | (go_simp; done) | (obtain ⟨z0, z1, z2, z3, z4, z5⟩ := hF.out _ hW'; go_simp)⟩) hW' ?_
      (try simp only [Act.put, List.setIfInBounds_toArray, List.set_cons_zero, List.set_cons_succ])
      rw [show (fsH 67 35 []).setIfInBounds 35 true = (fsH 67 36 []) from by kernel_rfl]
      refine wpAnyH_take (i := 36) (v := .bool true) hop36 hNS (by rw [← hops]; kernel_rfl) (by rw [← hops]; kernel_rfl) (hQp _ _) (.inl ⟨(by rfl), fun wz hz => by
          have hW' := hz
          first | (go_simp; done) | (obtain ⟨z0, z1, z2, z3, z4, z5⟩ := hF.out _ hW'; go_simp)⟩) hW' ?_
      (try simp only [Act.put, List.setIfInBounds_toArray, List.set_cons_zero, List.set_cons_succ])
      rw [show (fsH 67 36 []).setIfInBounds 36 true = (fsH 67 37 []) from by kernel_rfl]
      refine wpAnyH_take (i := 37) (v := auV (.slice a1 3 c1) (.slice aa 1 ca) 9) hop37 hNS (by rw [← hops]; kernel_rfl) (by rw [← hops]; kernel_rfl) (hQp _ _) (.inl ⟨(by rw [← hops]; kernel_rfl), fun wz hz => by
          have hW' := hz
          first | (go_simp; done) | (obtain ⟨z0, z1, z2, z3, z4, z5⟩ := hF.out _ hW'; go_simp)⟩) hW' ?_
      (try simp only [Act.put, List.setIfInBounds_toArray, List.set_cons_zero, List.set_cons_succ])
      rw [show (fsH 67 37 []).setIfInBounds 37 true = (fsH 67 38 []) from by kernel_rfl]
      exact H38 _ _ _ _ _ _ _ _ _ _ _ _ _ _ _ _ _ _ _ _ _ _ _ _ _ _ _ _ _ _ _ _ _ _ _ _ _ _ _ _ _ _ _ _ _ _ _ _ _ _ _ _ _ _ _ _ _ _ _ _ _ _ _ _ _ _ hW' 
  have H32_33 : ∀ (s0 s23 s24 s25 s26 s27 s28 s29 s30 s31 s32 s33 s34 s35 s36 s37 s38 s39 s40 s41 s42 s43 s44 s45 s46 s47 s48 s49 s50 s51 s52 s55 s57 s58 s59 s60 s61 s62 s63 s64 s65 s66 s67 s68 s69 s70 s71 s72 s73 s74 s75 s76 s77 s78 s79 s80 s81 s82 s83 s84 s85 s86 s87 s88 : Value) (p56 : Nat) (X : World), Below W0.heap.size W0 X → NmsAt X (.slice (some ⟨p56, 0, none⟩) 3 3) [0, 2, 2] → wpAnyH Tryz.prog .any ops QQ (fun Z => Below W0.heap.size W0 Z) 34 (fsH 67 32 [33]) ({ tmps := #[s0, .pointer (some ⟨b1, 0, none⟩), .int .i64 0, u3, .int .i64 110, .pointer (some ⟨b5, 0, none⟩), u6, u7, u8, u9, u10, u11, u12, u13, u14, u15, u16, u17, u18, u19, u20, u21, u22, s23, s24, s25, s26, s27, s28, s29, s30, s31, s32, s33, s34, s35, s36, s37, s38, s39, s40, s41, s42, s43, s44, s45, s46, s47, s48, s49, s50, s51, s52, .bool true, auV (.slice a1 3 c1) (.slice aa 1 ca) 9, s55, .slice (some ⟨p56, 0, none⟩) 3 3, s57, s58, s59, s60, s61, s62, s63, s64, s65, s66, s67, s68, s69, s70, s71, s72, s73, s74, s75, s76, s77, s78, s79, s80, s81, s82, s83, s84, s85, s86, s87, s88], defers := [] }) X := by
    as_aux_lemma =>
    intro s0 s23 s24 s25 s26 s27 s28 s29 s30 s31 s32 s33 s34 s35 s36 s37 s38 s39 s40 s41 s42 s43 s44 s45 s46 s47 s48 s49 s50 s51 s52 s55 s57 s58 s59 s60 s61 s62 s63 s64 s65 s66 s67 s68 s69 s70 s71 s72 s73 s74 s75 s76 s77 s78 s79 s80 s81 s82 s83 s84 s85 s86 s87 s88 p56 X hW' f56
    refine wpAnyH_all (rs := [32]) (by rw [← hops]; kernel_rfl) (by simp) ?_
    intro ix hix
    simp only [List.mem_cons, List.not_mem_nil, or_false] at hix
    rcases hix with rfl
    · refine held_op hop32 (by rw [← hops]; kernel_rfl) (fun K' hK => ?_)
      go_simp
      refine (D32.out X hW').mono ?_
      rintro e Y ⟨v55, rfl, f55, hb⟩
      dsimp only
      replace f56 := f56.later hb
      replace hW' := kept_trans hW' hb
      refine hK _ _ ⟨hW', ?_⟩
      clear hK K'
      (try simp only [Act.put, List.setIfInBounds_toArray, List.set_cons_zero, List.set_cons_succ])
      rw [show (fsH 67 32 [33]).setIfInBounds 32 true = (fsH 67 34 []) from by kernel_rfl]
      exact H34 _ _ _ _ _ _ _ _ _ _ _ _ _ _ _ _ _ _ _ _ _ _ _ _ _ _ _ _ _ _ _ _ _ _ _ _ _ _ _ _ _ _ _ _ _ _ _ _ _ _ _ _ _ _ _ _ _ _ _ _ _ _ _ _ _ _ _ hW' f55 f56
  have H33 : ∀ (s0 s23 s24 s25 s26 s27 s28 s29 s30 s31 s32 s33 s34 s35 s36 s37 s38 s39 s40 s41 s42 s43 s44 s45 s46 s47 s48 s49 s50 s51 s52 s54 s56 s57 s58 s59 s60 s61 s62 s63 s64 s65 s66 s67 s68 s69 s70 s71 s72 s73 s74 s75 s76 s77 s78 s79 s80 s81 s82 s83 s84 s85 s86 s87 s88 : Value) (v55 : Value) (X : World), Below W0.heap.size W0 X → NmsAt X v55 [0, 2, 2] → wpAnyH Tryz.prog .any ops QQ (fun Z => Below W0.heap.size W0 Z) 34 (fsH 67 33 []) ({ tmps := #[s0, .pointer (some ⟨b1, 0, none⟩), .int .i64 0, u3, .int .i64 110, .pointer (some ⟨b5, 0, none⟩), u6, u7, u8, u9, u10, u11, u12, u13, u14, u15, u16, u17, u18, u19, u20, u21, u22, s23, s24, s25, s26, s27, s28, s29, s30, s31, s32, s33, s34, s35, s36, s37, s38, s39, s40, s41, s42, s43, s44, s45, s46, s47, s48, s49, s50, s51, s52, .bool true, s54, v55, s56, s57, s58, s59, s60, s61, s62, s63, s64, s65, s66, s67, s68, s69, s70, s71, s72, s73, s74, s75, s76, s77, s78, s79, s80, s81, s82, s83, s84, s85, s86, s87, s88], defers := [] }) X := by
    as_aux_lemma =>
    intro s0 s23 s24 s25 s26 s27 s28 s29 s30 s31 s32 s33 s34 s35 s36 s37 s38 s39 s40 s41 s42 s43 s44 s45 s46 s47 s48 s49 s50 s51 s52 s54 s56 s57 s58 s59 s60 s61 s62 s63 s64 s65 s66 s67 s68 s69 s70 s71 s72 s73 s74 s75 s76 s77 s78 s79 s80 s81 s82 s83 s84 s85 s86 s87 s88 v55 X hW' f55
    refine wpAnyH_all (rs := [33]) (by rw [← hops]; kernel_rfl) (by simp) ?_
    intro ix hix
    simp only [List.mem_cons, List.not_mem_nil, or_false] at hix
    rcases hix with rfl
    · refine held_op hop33 (by rw [← hops]; kernel_rfl) (fun K' hK => ?_)
      go_simp
      have f56 : NmsAt (X.alloc (.cells #[.int .i64 0, .int .i64 2, .int .i64 2] 3)) (.slice (some ⟨X.heap.size, 0, none⟩) 3 3) [0, 2, 2] := lit_at X [0, 2, 2]
      replace f55 := f55.later (kept_new X (.cells #[.int .i64 0, .int .i64 2, .int .i64 2] 3))
      replace hW' := kept_trans hW' (kept_new X (.cells #[.int .i64 0, .int .i64 2, .int .i64 2] 3))
      refine hK _ _ ⟨hW', ?_⟩
      clear hK K'
      (try simp only [Act.put, List.setIfInBounds_toArray, List.set_cons_zero, List.set_cons_succ])
      rw [show (fsH 67 33 []).setIfInBounds 33 true = (fsH 67 34 []) from by kernel_rfl]
      exact H34 _ _ _ _ _ _ _ _ _ _ _ _ _ _ _ _ _ _ _ _ _ _ _ _ _ _ _ _ _ _ _ _ _ _ _ _ _ _ _ _ _ _ _ _ _ _ _ _ _ _ _ _ _ _ _ _ _ _ _ _ _ _ _ _ _ _ _ hW' f55 f56
  have H32 : ∀ (s0 s23 s24 s25 s26 s27 s28 s29 s30 s31 s32 s33 s34 s35 s36 s37 s38 s39 s40 s41 s42 s43 s44 s45 s46 s47 s48 s49 s50 s51 s52 s55 s56 s57 s58 s59 s60 s61 s62 s63 s64 s65 s66 s67 s68 s69 s70 s71 s72 s73 s74 s75 s76 s77 s78 s79 s80 s81 s82 s83 s84 s85 s86 s87 s88 : Value) (X : World), Below W0.heap.size W0 X → wpAnyH Tryz.prog .any ops QQ (fun Z => Below W0.heap.size W0 Z) 35 (fsH 67 32 []) ({ tmps := #[s0, .pointer (some ⟨b1, 0, none⟩), .int .i64 0, u3, .int .i64 110, .pointer (some ⟨b5, 0, none⟩), u6, u7, u8, u9, u10, u11, u12, u13, u14, u15, u16, u17, u18, u19, u20, u21, u22, s23, s24, s25, s26, s27, s28, s29, s30, s31, s32, s33, s34, s35, s36, s37, s38, s39, s40, s41, s42, s43, s44, s45, s46, s47, s48, s49, s50, s51, s52, .bool true, auV (.slice a1 3 c1) (.slice aa 1 ca) 9, s55, s56, s57, s58, s59, s60, s61, s62, s63, s64, s65, s66, s67, s68, s69, s70, s71, s72, s73, s74, s75, s76, s77, s78, s79, s80, s81, s82, s83, s84, s85, s86, s87, s88], defers := [] }) X := by
    as_aux_lemma =>
    intro s0 s23 s24 s25 s26 s27 s28 s29 s30 s31 s32 s33 s34 s35 s36 s37 s38 s39 s40 s41 s42 s43 s44 s45 s46 s47 s48 s49 s50 s51 s52 s55 s56 s57 s58 s59 s60 s61 s62 s63 s64 s65 s66 s67 s68 s69 s70 s71 s72 s73 s74 s75 s76 s77 s78 s79 s80 s81 s82 s83 s84 s85 s86 s87 s88 X hW'
    refine wpAnyH_all (rs := [32, 33]) (by rw [← hops]; kernel_rfl) (by simp) ?_
    intro ix hix
    simp only [List.mem_cons, List.not_mem_nil, or_false] at hix
    rcases hix with rfl | rfl
    · refine held_op hop32 (by rw [← hops]; kernel_rfl) (fun K' hK => ?_)
      go_simp
      refine (D32.out X hW').mono ?_
      rintro e Y ⟨v55, rfl, f55, hb⟩
      dsimp only
      replace hW' := kept_trans hW' hb
      refine hK _ _ ⟨hW', ?_⟩
      clear hK K'
      (try simp only [Act.put, List.setIfInBounds_toArray, List.set_cons_zero, List.set_cons_succ])
      rw [show (fsH 67 32 []).setIfInBounds 32 true = (fsH 67 33 []) from by kernel_rfl]
      exact H33 _ _ _ _ _ _ _ _ _ _ _ _ _ _ _ _ _ _ _ _ _ _ _ _ _ _ _ _ _ _ _ _ _ _ _ _ _ _ _ _ _ _ _ _ _ _ _ _ _ _ _ _ _ _ _ _ _ _ _ _ _ _ _ _ _ _ _ hW' f55
    · refine held_op hop33 (by rw [← hops]; kernel_rfl) (fun K' hK => ?_)
      go_simp
      have f56 : NmsAt (X.alloc (.cells #[.int .i64 0, .int .i64 2, .int .i64 2] 3)) (.slice (some ⟨X.heap.size, 0, none⟩) 3 3) [0, 2, 2] := lit_at X [0, 2, 2]
      replace hW' := kept_trans hW' (kept_new X (.cells #[.int .i64 0, .int .i64 2, .int .i64 2] 3))
      refine hK _ _ ⟨hW', ?_⟩
      clear hK K'
      (try simp only [Act.put, List.setIfInBounds_toArray, List.set_cons_zero, List.set_cons_succ])
      rw [show (fsH 67 32 []).setIfInBounds 33 true = (fsH 67 32 [33]) from by kernel_rfl]
      exact H32_33 _ _ _ _ _ _ _ _ _ _ _ _ _ _ _ _ _ _ _ _ _ _ _ _ _ _ _ _ _ _ _ _ _ _ _ _ _ _ _ _ _ _ _ _ _ _ _ _ _ _ _ _ _ _ _ _ _ _ _ _ _ _ _ _ _ _ hW' f56
  have H28 : ∀ (s0 s23 s24 s25 s26 s27 s28 s29 s30 s31 s32 s33 s34 s35 s36 s37 s38 s39 s40 s41 s42 s43 s44 s46 s48 s49 s51 s52 s53 s54 s55 s56 s57 s58 s59 s60 s61 s62 s63 s64 s65 s66 s67 s68 s69 s70 s71 s72 s73 s74 s75 s76 s77 s78 s79 s80 s81 s82 s83 s84 s85 s86 s87 s88 : Value) (v47 : Value) (p50 : Nat) (X : World), Below W0.heap.size W0 X → RowsAt X v47 [[0, 2], [0, 2, 2]] → RowsAt X (.slice (some ⟨p50, 0, none⟩) 2 2) [[0, 2], [0, 2, 2]] → wpAnyH Tryz.prog .any ops QQ (fun Z => Below W0.heap.size W0 Z) 39 (fsH 67 28 []) ({ tmps := #[s0, .pointer (some ⟨b1, 0, none⟩), .int .i64 0, u3, .int .i64 110, .pointer (some ⟨b5, 0, none⟩), u6, u7, u8, u9, u10, u11, u12, u13, u14, u15, u16, u17, u18, u19, u20, u21, u22, s23, s24, s25, s26, s27, s28, s29, s30, s31, s32, s33, s34, s35, s36, s37, s38, s39, s40, s41, s42, s43, s44, .bool true, s46, v47, s48, s49, .slice (some ⟨p50, 0, none⟩) 2 2, s51, s52, s53, s54, s55, s56, s57, s58, s59, s60, s61, s62, s63, s64, s65, s66, s67, s68, s69, s70, s71, s72, s73, s74, s75, s76, s77, s78, s79, s80, s81, s82, s83, s84, s85, s86, s87, s88], defers := [] }) X := by
    as_aux_lemma =>
    intro s0 s23 s24 s25 s26 s27 s28 s29 s30 s31 s32 s33 s34 s35 s36 s37 s38 s39 s40 s41 s42 s43 s44 s46 s48 s49 s51 s52 s53 s54 s55 s56 s57 s58 s59 s60 s61 s62 s63 s64 s65 s66 s67 s68 s69 s70 s71 s72 s73 s74 s75 s76 s77 s78 s79 s80 s81 s82 s83 s84 s85 s86 s87 s88 v47 p50 X hW' f47 f50
    refine wpAnyH_all (rs := [28]) (by rw [← hops]; kernel_rfl) (by simp) ?_
    intro ix hix
    simp only [List.mem_cons, List.not_mem_nil, or_false] at hix
    rcases hix with rfl
    · refine held_op hop28 (by rw [← hops]; kernel_rfl) (fun K' hK => ?_)
      go_simp
      refine (rowedW X f47 f50).mono ?_
      rintro e Y ⟨rfl, hb⟩
      dsimp only
      replace hW' := kept_trans hW' hb
      refine hK _ _ ⟨hW', ?_⟩
      clear hK K'
      (try simp only [Act.put, List.setIfInBounds_toArray, List.set_cons_zero, List.set_cons_succ])
      rw [show (fsH 67 28 []).setIfInBounds 28 true = (fsH 67 29 []) from by kernel_rfl]
      refine wpAnyH_take (i := 29) (v := .bool true) hop29 hNS (by rw [← hops]; kernel_rfl) (by rw [← hops]; kernel_rfl) (hQp _ _) (.inl ⟨(by rfl), fun wz hz => by
          have hW' := hz
          first | (go_simp; done) | (obtain ⟨z0, z1, z2, z3, z4, z5⟩ := hF.out _ hW'; go_simp)⟩) hW' ?_
      (try simp only [Act.put, List.setIfInBounds_toArray, List.set_cons_zero, List.set_cons_succ])
      rw [show (fsH 67 29 []).setIfInBounds 29 true = (fsH 67 30 []) from by kernel_rfl]
      refine wpAnyH_take (i := 30) (v := .bool true) hop30 hNS (by rw [← hops]; kernel_rfl) (by rw [← hops]; kernel_rfl) (hQp _ _) (.inl ⟨(by rfl), fun wz hz => by
          have hW' := hz
          first | (go_simp; done) | (obtain ⟨z0, z1, z2, z3, z4, z5⟩ := hF.out _ hW'; go_simp)⟩) hW' ?_
      (try simp only [Act.put, List.setIfInBounds_toArray, List.set_cons_zero, List.set_cons_succ])
      rw [show (fsH 67 30 []).setIfInBounds 30 true = (fsH 67 31 []) from by kernel_rfl]
      refine wpAnyH_take (i := 31) (v := auV (.slice a1 3 c1) (.slice aa 1 ca) 9) hop31 hNS (by rw [← hops]; kernel_rfl) (by rw [← hops]; kernel_rfl) (hQp _ _) (.inl ⟨(by rw [← hops]; kernel_rfl), fun wz hz => by
          have hW' := hz
          first | (go_simp; done) | (obtain ⟨z0, z1, z2, z3, z4, z5⟩ := hF.out _ hW'; go_simp)⟩) hW' ?_
      (try simp only [Act.put, List.setIfInBounds_toArray, List.set_cons_zero, List.set_cons_succ])
      rw [show (fsH 67 31 []).setIfInBounds 31 true = (fsH 67 32 []) from by kernel_rfl]
      exact H32 _ _ _ _ _ _ _ _ _ _ _ _ _ _ _ _ _ _ _ _ _ _ _ _ _ _ _ _ _ _ _ _ _ _ _ _ _ _ _ _ _ _ _ _ _ _ _ _ _ _ _ _ _ _ _ _ _ _ _ _ _ _ _ _ _ _ hW' 
  have H24_25_26_27 : ∀ (s0 s23 s24 s25 s26 s27 s28 s29 s30 s31 s32 s33 s34 s35 s36 s37 s38 s39 s40 s41 s42 s43 s44 s47 s48 s49 s51 s52 s53 s54 s55 s56 s57 s58 s59 s60 s61 s62 s63 s64 s65 s66 s67 s68 s69 s70 s71 s72 s73 s74 s75 s76 s77 s78 s79 s80 s81 s82 s83 s84 s85 s86 s87 s88 : Value) (p50 : Nat) (X : World), Below W0.heap.size W0 X → RowsAt X (.slice (some ⟨p50, 0, none⟩) 2 2) [[0, 2], [0, 2, 2]] → wpAnyH Tryz.prog .any ops QQ (fun Z => Below W0.heap.size W0 Z) 40 (fsH 67 24 [25, 26, 27]) ({ tmps := #[s0, .pointer (some ⟨b1, 0, none⟩), .int .i64 0, u3, .int .i64 110, .pointer (some ⟨b5, 0, none⟩), u6, u7, u8, u9, u10, u11, u12, u13, u14, u15, u16, u17, u18, u19, u20, u21, u22, s23, s24, s25, s26, s27, s28, s29, s30, s31, s32, s33, s34, s35, s36, s37, s38, s39, s40, s41, s42, s43, s44, .bool true, auV (.slice a1 3 c1) (.slice aa 1 ca) 9, s47, s48, s49, .slice (some ⟨p50, 0, none⟩) 2 2, s51, s52, s53, s54, s55, s56, s57, s58, s59, s60, s61, s62, s63, s64, s65, s66, s67, s68, s69, s70, s71, s72, s73, s74, s75, s76, s77, s78, s79, s80, s81, s82, s83, s84, s85, s86, s87, s88], defers := [] }) X := by
    as_aux_lemma =>
    intro s0 s23 s24 s25 s26 s27 s28 s29 s30 s31 s32 s33 s34 s35 s36 s37 s38 s39 s40 s41 s42 s43 s44 s47 s48 s49 s51 s52 s53 s54 s55 s56 s57 s58 s59 s60 s61 s62 s63 s64 s65 s66 s67 s68 s69 s70 s71 s72 s73 s74 s75 s76 s77 s78 s79 s80 s81 s82 s83 s84 s85 s86 s87 s88 p50 X hW' f50
    refine wpAnyH_all (rs := [24]) (by rw [← hops]; kernel_rfl) (by simp) ?_
    intro ix hix
    simp only [List.mem_cons, List.not_mem_nil, or_false] at hix
    rcases hix with rfl
    · refine held_op hop24 (by rw [← hops]; kernel_rfl) (fun K' hK => ?_)
      go_simp
      refine (D24.out X hW').mono ?_
      rintro e Y ⟨v47, rfl, f47, hb⟩
      dsimp only
      replace f50 := f50.later hb
      replace hW' := kept_trans hW' hb
      refine hK _ _ ⟨hW', ?_⟩
      clear hK K'
      (try simp only [Act.put, List.setIfInBounds_toArray, List.set_cons_zero, List.set_cons_succ])
      rw [show (fsH 67 24 [25, 26, 27]).setIfInBounds 24 true = (fsH 67 28 []) from by kernel_rfl]
      exact H28 _ _ _ _ _ _ _ _ _ _ _ _ _ _ _ _ _ _ _ _ _ _ _ _ _ _ _ _ _ _ _ _ _ _ _ _ _ _ _ _ _ _ _ _ _ _ _ _ _ _ _ _ _ _ _ _ _ _ _ _ _ _ _ _ _ _ _ hW' f47 f50
  have H27 : ∀ (s0 s23 s24 s25 s26 s27 s28 s29 s30 s31 s32 s33 s34 s35 s36 s37 s38 s39 s40 s41 s42 s43 s44 s46 s50 s51 s52 s53 s54 s55 s56 s57 s58 s59 s60 s61 s62 s63 s64 s65 s66 s67 s68 s69 s70 s71 s72 s73 s74 s75 s76 s77 s78 s79 s80 s81 s82 s83 s84 s85 s86 s87 s88 : Value) (v47 : Value) (p48 : Nat) (p49 : Nat) (X : World), Below W0.heap.size W0 X → RowsAt X v47 [[0, 2], [0, 2, 2]] → NmsAt X (.slice (some ⟨p48, 0, none⟩) 2 2) [0, 2] → NmsAt X (.slice (some ⟨p49, 0, none⟩) 3 3) [0, 2, 2] → wpAnyH Tryz.prog .any ops QQ (fun Z => Below W0.heap.size W0 Z) 40 (fsH 67 27 []) ({ tmps := #[s0, .pointer (some ⟨b1, 0, none⟩), .int .i64 0, u3, .int .i64 110, .pointer (some ⟨b5, 0, none⟩), u6, u7, u8, u9, u10, u11, u12, u13, u14, u15, u16, u17, u18, u19, u20, u21, u22, s23, s24, s25, s26, s27, s28, s29, s30, s31, s32, s33, s34, s35, s36, s37, s38, s39, s40, s41, s42, s43, s44, .bool true, s46, v47, .slice (some ⟨p48, 0, none⟩) 2 2, .slice (some ⟨p49, 0, none⟩) 3 3, s50, s51, s52, s53, s54, s55, s56, s57, s58, s59, s60, s61, s62, s63, s64, s65, s66, s67, s68, s69, s70, s71, s72, s73, s74, s75, s76, s77, s78, s79, s80, s81, s82, s83, s84, s85, s86, s87, s88], defers := [] }) X := by
    as_aux_lemma =>
    intro s0 s23 s24 s25 s26 s27 s28 s29 s30 s31 s32 s33 s34 s35 s36 s37 s38 s39 s40 s41 s42 s43 s44 s46 s50 s51 s52 s53 s54 s55 s56 s57 s58 s59 s60 s61 s62 s63 s64 s65 s66 s67 s68 s69 s70 s71 s72 s73 s74 s75 s76 s77 s78 s79 s80 s81 s82 s83 s84 s85 s86 s87 s88 v47 p48 p49 X hW' f47 f48 f49
    refine wpAnyH_all (rs := [27]) (by rw [← hops]; kernel_rfl) (by simp) ?_
    intro ix hix
    simp only [List.mem_cons, List.not_mem_nil, or_false] at hix
    rcases hix with rfl
    · refine held_op hop27 (by rw [← hops]; kernel_rfl) (fun K' hK => ?_)
      go_simp
      have f50 : RowsAt (X.alloc (.cells #[.slice (some ⟨p48, 0, none⟩) 2 2, .slice (some ⟨p49, 0, none⟩) 3 3] 28)) (.slice (some ⟨X.heap.size, 0, none⟩) 2 2) [[0, 2], [0, 2, 2]] := lit_two X f48 f49
      replace f47 := f47.later (kept_new X (.cells #[.slice (some ⟨p48, 0, none⟩) 2 2, .slice (some ⟨p49, 0, none⟩) 3 3] 28))
      replace hW' := kept_trans hW' (kept_new X (.cells #[.slice (some ⟨p48, 0, none⟩) 2 2, .slice (some ⟨p49, 0, none⟩) 3 3] 28))
      refine hK _ _ ⟨hW', ?_⟩
      clear hK K'
      (try simp only [Act.put, List.setIfInBounds_toArray, List.set_cons_zero, List.set_cons_succ])
      rw [show (fsH 67 27 []).setIfInBounds 27 true = (fsH 67 28 []) from by kernel_rfl]
      exact H28 _ _ _ _ _ _ _ _ _ _ _ _ _ _ _ _ _ _ _ _ _ _ _ _ _ _ _ _ _ _ _ _ _ _ _ _ _ _ _ _ _ _ _ _ _ _ _ _ _ _ _ _ _ _ _ _ _ _ _ _ _ _ _ _ _ _ _ hW' f47 f50
  have H24_25_26 : ∀ (s0 s23 s24 s25 s26 s27 s28 s29 s30 s31 s32 s33 s34 s35 s36 s37 s38 s39 s40 s41 s42 s43 s44 s47 s50 s51 s52 s53 s54 s55 s56 s57 s58 s59 s60 s61 s62 s63 s64 s65 s66 s67 s68 s69 s70 s71 s72 s73 s74 s75 s76 s77 s78 s79 s80 s81 s82 s83 s84 s85 s86 s87 s88 : Value) (p48 : Nat) (p49 : Nat) (X : World), Below W0.heap.size W0 X → NmsAt X (.slice (some ⟨p48, 0, none⟩) 2 2) [0, 2] → NmsAt X (.slice (some ⟨p49, 0, none⟩) 3 3) [0, 2, 2] → wpAnyH Tryz.prog .any ops QQ (fun Z => Below W0.heap.size W0 Z) 41 (fsH 67 24 [25, 26]) ({ tmps := #[s0, .pointer (some ⟨b1, 0, none⟩), .int .i64 0, u3, .int .i64 110, .pointer (some ⟨b5, 0, none⟩), u6, u7, u8, u9, u10, u11, u12, u13, u14, u15, u16, u17, u18, u19, u20, u21, u22, s23, s24, s25, s26, s27, s28, s29, s30, s31, s32, s33, s34, s35, s36, s37, s38, s39, s40, s41, s42, s43, s44, .bool true, auV (.slice a1 3 c1) (.slice aa 1 ca) 9, s47, .slice (some ⟨p48, 0, none⟩) 2 2, .slice (some ⟨p49, 0, none⟩) 3 3, s50, s51, s52, s53, s54, s55, s56, s57, s58, s59, s60, s61, s62, s63, s64, s65, s66, s67, s68, s69, s70, s71, s72, s73, s74, s75, s76, s77, s78, s79, s80, s81, s82, s83, s84, s85, s86, s87, s88], defers := [] }) X := by
    as_aux_lemma =>
    intro s0 s23 s24 s25 s26 s27 s28 s29 s30 s31 s32 s33 s34 s35 s36 s37 s38 s39 s40 s41 s42 s43 s44 s47 s50 s51 s52 s53 s54 s55 s56 s57 s58 s59 s60 s61 s62 s63 s64 s65 s66 s67 s68 s69 s70 s71 s72 s73 s74 s75 s76 s77 s78 s79 s80 s81 s82 s83 s84 s85 s86 s87 s88 p48 p49 X hW' f48 f49
    refine wpAnyH_all (rs := [24, 27]) (by rw [← hops]; kernel_rfl) (by simp) ?_
    intro ix hix
    simp only [List.mem_cons, List.not_mem_nil, or_false] at hix
    rcases hix with rfl | rfl
    · refine held_op hop24 (by rw [← hops]; kernel_rfl) (fun K' hK => ?_)
      go_simp
      refine (D24.out X hW').mono ?_
      rintro e Y ⟨v47, rfl, f47, hb⟩
      dsimp only
      replace f48 := f48.later hb
      replace f49 := f49.later hb
      replace hW' := kept_trans hW' hb
      refine hK _ _ ⟨hW', ?_⟩
      clear hK K'
      (try simp only [Act.put, List.setIfInBounds_toArray, List.set_cons_zero, List.set_cons_succ])
      rw [show (fsH 67 24 [25, 26]).setIfInBounds 24 true = (fsH 67 27 []) from by kernel_rfl]
      exact H27 _ _ _ _ _ _ _ _ _ _ _ _ _ _ _ _ _ _ _ _ _ _ _ _ _ _ _ _ _ _ _ _ _ _ _ _ _ _ _ _ _ _ _ _ _ _ _ _ _ _ _ _ _ _ _ _ _ _ _ _ _ _ _ _ _ _ _ hW' f47 f48 f49
    · refine held_op hop27 (by rw [← hops]; kernel_rfl) (fun K' hK => ?_)
      go_simp
      have f50 : RowsAt (X.alloc (.cells #[.slice (some ⟨p48, 0, none⟩) 2 2, .slice (some ⟨p49, 0, none⟩) 3 3] 28)) (.slice (some ⟨X.heap.size, 0, none⟩) 2 2) [[0, 2], [0, 2, 2]] := lit_two X f48 f49
      replace hW' := kept_trans hW' (kept_new X (.cells #[.slice (some ⟨p48, 0, none⟩) 2 2, .slice (some ⟨p49, 0, none⟩) 3 3] 28))
      refine hK _ _ ⟨hW', ?_⟩
      clear hK K'
      (try simp only [Act.put, List.setIfInBounds_toArray, List.set_cons_zero, List.set_cons_succ])
      rw [show (fsH 67 24 [25, 26]).setIfInBounds 27 true = (fsH 67 24 [25, 26, 27]) from by kernel_rfl]
      exact H24_25_26_27 _ _ _ _ _ _ _ _ _ _ _ _ _ _ _ _ _ _ _ _ _ _ _ _ _ _ _ _ _ _ _ _ _ _ _ _ _ _ _ _ _ _ _ _ _ _ _ _ _ _ _ _ _ _ _ _ _ _ _ _ _ _ _ _ _ _ hW' f50
  have H25_26 : ∀ (s0 s23 s24 s25 s26 s27 s28 s29 s30 s31 s32 s33 s34 s35 s36 s37 s38 s39 s40 s41 s42 s43 s44 s46 s48 s50 s51 s52 s53 s54 s55 s56 s57 s58 s59 s60 s61 s62 s63 s64 s65 s66 s67 s68 s69 s70 s71 s72 s73 s74 s75 s76 s77 s78 s79 s80 s81 s82 s83 s84 s85 s86 s87 s88 : Value) (v47 : Value) (p49 : Nat) (X : World), Below W0.heap.size W0 X → RowsAt X v47 [[0, 2], [0, 2, 2]] → NmsAt X (.slice (some ⟨p49, 0, none⟩) 3 3) [0, 2, 2] → wpAnyH Tryz.prog .any ops QQ (fun Z => Below W0.heap.size W0 Z) 41 (fsH 67 25 [26]) ({ tmps := #[s0, .pointer (some ⟨b1, 0, none⟩), .int .i64 0, u3, .int .i64 110, .pointer (some ⟨b5, 0, none⟩), u6, u7, u8, u9, u10, u11, u12, u13, u14, u15, u16, u17, u18, u19, u20, u21, u22, s23, s24, s25, s26, s27, s28, s29, s30, s31, s32, s33, s34, s35, s36, s37, s38, s39, s40, s41, s42, s43, s44, .bool true, s46, v47, s48, .slice (some ⟨p49, 0, none⟩) 3 3, s50, s51, s52, s53, s54, s55, s56, s57, s58, s59, s60, s61, s62, s63, s64, s65, s66, s67, s68, s69, s70, s71, s72, s73, s74, s75, s76, s77, s78, s79, s80, s81, s82, s83, s84, s85, s86, s87, s88], defers := [] }) X := by
    as_aux_lemma =>
    intro s0 s23 s24 s25 s26 s27 s28 s29 s30 s31 s32 s33 s34 s35 s36 s37 s38 s39 s40 s41 s42 s43 s44 s46 s48 s50 s51 s52 s53 s54 s55 s56 s57 s58 s59 s60 s61 s62 s63 s64 s65 s66 s67 s68 s69 s70 s71 s72 s73 s74 s75 s76 s77 s78 s79 s80 s81 s82 s83 s84 s85 s86 s87 s88 v47 p49 X hW' f47 f49
    refine wpAnyH_all (rs := [25]) (by rw [← hops]; kernel_rfl) (by simp) ?_
    intro ix hix
    simp only [List.mem_cons, List.not_mem_nil, or_false] at hix
    rcases hix with rfl
    · refine held_op hop25 (by rw [← hops]; kernel_rfl) (fun K' hK => ?_)
      go_simp
      have f48 : NmsAt (X.alloc (.cells #[.int .i64 0, .int .i64 2] 3)) (.slice (some ⟨X.heap.size, 0, none⟩) 2 2) [0, 2] := lit_at X [0, 2]
      replace f47 := f47.later (kept_new X (.cells #[.int .i64 0, .int .i64 2] 3))
      replace f49 := f49.later (kept_new X (.cells #[.int .i64 0, .int .i64 2] 3))
      replace hW' := kept_trans hW' (kept_new X (.cells #[.int .i64 0, .int .i64 2] 3))
      refine hK _ _ ⟨hW', ?_⟩
      clear hK K'
      (try simp only [Act.put, List.setIfInBounds_toArray, List.set_cons_zero, List.set_cons_succ])
      rw [show (fsH 67 25 [26]).setIfInBounds 25 true = (fsH 67 27 []) from by kernel_rfl]
      exact H27 _ _ _ _ _ _ _ _ _ _ _ _ _ _ _ _ _ _ _ _ _ _ _ _ _ _ _ _ _ _ _ _ _ _ _ _ _ _ _ _ _ _ _ _ _ _ _ _ _ _ _ _ _ _ _ _ _ _ _ _ _ _ _ _ _ _ _ hW' f47 f48 f49
  have H26 : ∀ (s0 s23 s24 s25 s26 s27 s28 s29 s30 s31 s32 s33 s34 s35 s36 s37 s38 s39 s40 s41 s42 s43 s44 s46 s49 s50 s51 s52 s53 s54 s55 s56 s57 s58 s59 s60 s61 s62 s63 s64 s65 s66 s67 s68 s69 s70 s71 s72 s73 s74 s75 s76 s77 s78 s79 s80 s81 s82 s83 s84 s85 s86 s87 s88 : Value) (v47 : Value) (p48 : Nat) (X : World), Below W0.heap.size W0 X → RowsAt X v47 [[0, 2], [0, 2, 2]] → NmsAt X (.slice (some ⟨p48, 0, none⟩) 2 2) [0, 2] → wpAnyH Tryz.prog .any ops QQ (fun Z => Below W0.heap.size W0 Z) 41 (fsH 67 26 []) ({ tmps := #[s0, .pointer (some ⟨b1, 0, none⟩), .int .i64 0, u3, .int .i64 110, .pointer (some ⟨b5, 0, none⟩), u6, u7, u8, u9, u10, u11, u12, u13, u14, u15, u16, u17, u18, u19, u20, u21, u22, s23, s24, s25, s26, s27, s28, s29, s30, s31, s32, s33, s34, s35, s36, s37, s38, s39, s40, s41, s42, s43, s44, .bool true, s46, v47, .slice (some ⟨p48, 0, none⟩) 2 2, s49, s50, s51, s52, s53, s54, s55, s56, s57, s58, s59, s60, s61, s62, s63, s64, s65, s66, s67, s68, s69, s70, s71, s72, s73, s74, s75, s76, s77, s78, s79, s80, s81, s82, s83, s84, s85, s86, s87, s88], defers := [] }) X := by
    as_aux_lemma =>
    intro s0 s23 s24 s25 s26 s27 s28 s29 s30 s31 s32 s33 s34 s35 s36 s37 s38 s39 s40 s41 s42 s43 s44 s46 s49 s50 s51 s52 s53 s54 s55 s56 s57 s58 s59 s60 s61 s62 s63 s64 s65 s66 s67 s68 s69 s70 s71 s72 s73 s74 s75 s76 s77 s78 s79 s80 s81 s82 s83 s84 s85 s86 s87 s88 v47 p48 X hW' f47 f48
    refine wpAnyH_all (rs := [26]) (by rw [← hops]; kernel_rfl) (by simp) ?_
    intro ix hix
    simp only [List.mem_cons, List.not_mem_nil, or_false] at hix
    rcases hix with rfl
    · refine held_op hop26 (by rw [← hops]; kernel_rfl) (fun K' hK => ?_)
      go_simp
      have f49 : NmsAt (X.alloc (.cells #[.int .i64 0, .int .i64 2, .int .i64 2] 3)) (.slice (some ⟨X.heap.size, 0, none⟩) 3 3) [0, 2, 2] := lit_at X [0, 2, 2]
      replace f47 := f47.later (kept_new X (.cells #[.int .i64 0, .int .i64 2, .int .i64 2] 3))
      replace f48 := f48.later (kept_new X (.cells #[.int .i64 0, .int .i64 2, .int .i64 2] 3))
      replace hW' := kept_trans hW' (kept_new X (.cells #[.int .i64 0, .int .i64 2, .int .i64 2] 3))
      refine hK _ _ ⟨hW', ?_⟩
      clear hK K'
      (try simp only [Act.put, List.setIfInBounds_toArray, List.set_cons_zero, List.set_cons_succ])
      rw [show (fsH 67 26 []).setIfInBounds 26 true = (fsH 67 27 []) from by kernel_rfl]
      exact H27 _ _ _ _ _ _ _ _ _ _ _ _ _ _ _ _ _ _ _ _ _ _ _ _ _ _ _ _ _ _ _ _ _ _ _ _ _ _ _ _ _ _ _ _ _ _ _ _ _ _ _ _ _ _ _ _ _ _ _ _ _ _ _ _ _ _ _ hW' f47 f48 f49
  have H24_26 : ∀ (s0 s23 s24 s25 s26 s27 s28 s29 s30 s31 s32 s33 s34 s35 s36 s37 s38 s39 s40 s41 s42 s43 s44 s47 s48 s50 s51 s52 s53 s54 s55 s56 s57 s58 s59 s60 s61 s62 s63 s64 s65 s66 s67 s68 s69 s70 s71 s72 s73 s74 s75 s76 s77 s78 s79 s80 s81 s82 s83 s84 s85 s86 s87 s88 : Value) (p49 : Nat) (X : World), Below W0.heap.size W0 X → NmsAt X (.slice (some ⟨p49, 0, none⟩) 3 3) [0, 2, 2] → wpAnyH Tryz.prog .any ops QQ (fun Z => Below W0.heap.size W0 Z) 42 (fsH 67 24 [26]) ({ tmps := #[s0, .pointer (some ⟨b1, 0, none⟩), .int .i64 0, u3, .int .i64 110, .pointer (some ⟨b5, 0, none⟩), u6, u7, u8, u9, u10, u11, u12, u13, u14, u15, u16, u17, u18, u19, u20, u21, u22, s23, s24, s25, s26, s27, s28, s29, s30, s31, s32, s33, s34, s35, s36, s37, s38, s39, s40, s41, s42, s43, s44, .bool true, auV (.slice a1 3 c1) (.slice aa 1 ca) 9, s47, s48, .slice (some ⟨p49, 0, none⟩) 3 3, s50, s51, s52, s53, s54, s55, s56, s57, s58, s59, s60, s61, s62, s63, s64, s65, s66, s67, s68, s69, s70, s71, s72, s73, s74, s75, s76, s77, s78, s79, s80, s81, s82, s83, s84, s85, s86, s87, s88], defers := [] }) X := by
    as_aux_lemma =>
    intro s0 s23 s24 s25 s26 s27 s28 s29 s30 s31 s32 s33 s34 s35 s36 s37 s38 s39 s40 s41 s42 s43 s44 s47 s48 s50 s51 s52 s53 s54 s55 s56 s57 s58 s59 s60 s61 s62 s63 s64 s65 s66 s67 s68 s69 s70 s71 s72 s73 s74 s75 s76 s77 s78 s79 s80 s81 s82 s83 s84 s85 s86 s87 s88 p49 X hW' f49
    refine wpAnyH_all (rs := [24, 25]) (by rw [← hops]; kernel_rfl) (by simp) ?_
    intro ix hix
    simp only [List.mem_cons, List.not_mem_nil, or_false] at hix
    rcases hix with rfl | rfl
    · refine held_op hop24 (by rw [← hops]; kernel_rfl) (fun K' hK => ?_)
      go_simp
      refine (D24.out X hW').mono ?_
      rintro e Y ⟨v47, rfl, f47, hb⟩
      dsimp only
      replace f49 := f49.later hb
      replace hW' := kept_trans hW' hb
      refine hK _ _ ⟨hW', ?_⟩
      clear hK K'
      (try simp only [Act.put, List.setIfInBounds_toArray, List.set_cons_zero, List.set_cons_succ])
      rw [show (fsH 67 24 [26]).setIfInBounds 24 true = (fsH 67 25 [26]) from by kernel_rfl]
      exact H25_26 _ _ _ _ _ _ _ _ _ _ _ _ _ _ _ _ _ _ _ _ _ _ _ _ _ _ _ _ _ _ _ _ _ _ _ _ _ _ _ _ _ _ _ _ _ _ _ _ _ _ _ _ _ _ _ _ _ _ _ _ _ _ _ _ _ _ _ hW' f47 f49
    · refine held_op hop25 (by rw [← hops]; kernel_rfl) (fun K' hK => ?_)
      go_simp
      have f48 : NmsAt (X.alloc (.cells #[.int .i64 0, .int .i64 2] 3)) (.slice (some ⟨X.heap.size, 0, none⟩) 2 2) [0, 2] := lit_at X [0, 2]
      replace f49 := f49.later (kept_new X (.cells #[.int .i64 0, .int .i64 2] 3))
      replace hW' := kept_trans hW' (kept_new X (.cells #[.int .i64 0, .int .i64 2] 3))
      refine hK _ _ ⟨hW', ?_⟩
      clear hK K'
      (try simp only [Act.put, List.setIfInBounds_toArray, List.set_cons_zero, List.set_cons_succ])
      rw [show (fsH 67 24 [26]).setIfInBounds 25 true = (fsH 67 24 [25, 26]) from by kernel_rfl]
      exact H24_25_26 _ _ _ _ _ _ _ _ _ _ _ _ _ _ _ _ _ _ _ _ _ _ _ _ _ _ _ _ _ _ _ _ _ _ _ _ _ _ _ _ _ _ _ _ _ _ _ _ _ _ _ _ _ _ _ _ _ _ _ _ _ _ _ _ _ _ hW' f48 f49
  have H24_25 : ∀ (s0 s23 s24 s25 s26 s27 s28 s29 s30 s31 s32 s33 s34 s35 s36 s37 s38 s39 s40 s41 s42 s43 s44 s47 s49 s50 s51 s52 s53 s54 s55 s56 s57 s58 s59 s60 s61 s62 s63 s64 s65 s66 s67 s68 s69 s70 s71 s72 s73 s74 s75 s76 s77 s78 s79 s80 s81 s82 s83 s84 s85 s86 s87 s88 : Value) (p48 : Nat) (X : World), Below W0.heap.size W0 X → NmsAt X (.slice (some ⟨p48, 0, none⟩) 2 2) [0, 2] → wpAnyH Tryz.prog .any ops QQ (fun Z => Below W0.heap.size W0 Z) 42 (fsH 67 24 [25]) ({ tmps := #[s0, .pointer (some ⟨b1, 0, none⟩), .int .i64 0, u3, .int .i64 110, .pointer (some ⟨b5, 0, none⟩), u6, u7, u8, u9, u10, u11, u12, u13, u14, u15, u16, u17, u18, u19, u20, u21, u22, s23, s24, s25, s26, s27, s28, s29, s30, s31, s32, s33, s34, s35, s36, s37, s38, s39, s40, s41, s42, s43, s44, .bool true, auV (.slice a1 3 c1) (.slice aa 1 ca) 9, s47, .slice (some ⟨p48, 0, none⟩) 2 2, s49, s50, s51, s52, s53, s54, s55, s56, s57, s58, s59, s60, s61, s62, s63, s64, s65, s66, s67, s68, s69, s70, s71, s72, s73, s74, s75, s76, s77, s78, s79, s80, s81, s82, s83, s84, s85, s86, s87, s88], defers := [] }) X := by
    as_aux_lemma =>
    intro s0 s23 s24 s25 s26 s27 s28 s29 s30 s31 s32 s33 s34 s35 s36 s37 s38 s39 s40 s41 s42 s43 s44 s47 s49 s50 s51 s52 s53 s54 s55 s56 s57 s58 s59 s60 s61 s62 s63 s64 s65 s66 s67 s68 s69 s70 s71 s72 s73 s74 s75 s76 s77 s78 s79 s80 s81 s82 s83 s84 s85 s86 s87 s88 p48 X hW' f48
    refine wpAnyH_all (rs := [24, 26]) (by rw [← hops]; kernel_rfl) (by simp) ?_
    intro ix hix
    simp only [List.mem_cons, List.not_mem_nil, or_false] at hix
    rcases hix with rfl | rfl
    · refine held_op hop24 (by rw [← hops]; kernel_rfl) (fun K' hK => ?_)
      go_simp
      refine (D24.out X hW').mono ?_
      rintro e Y ⟨v47, rfl, f47, hb⟩
      dsimp only
      replace f48 := f48.later hb
      replace hW' := kept_trans hW' hb
      refine hK _ _ ⟨hW', ?_⟩
      clear hK K'
      (try simp only [Act.put, List.setIfInBounds_toArray, List.set_cons_zero, List.set_cons_succ])
      rw [show (fsH 67 24 [25]).setIfInBounds 24 true = (fsH 67 26 []) from by kernel_rfl]
      exact H26 _ _ _ _ _ _ _ _ _ _ _ _ _ _ _ _ _ _ _ _ _ _ _ _ _ _ _ _ _ _ _ _ _ _ _ _ _ _ _ _ _ _ _ _ _ _ _ _ _ _ _ _ _ _ _ _ _ _ _ _ _ _ _ _ _ _ _ hW' f47 f48
    · refine held_op hop26 (by rw [← hops]; kernel_rfl) (fun K' hK => ?_)
      go_simp
      have f49 : NmsAt (X.alloc (.cells #[.int .i64 0, .int .i64 2, .int .i64 2] 3)) (.slice (some ⟨X.heap.size, 0, none⟩) 3 3) [0, 2, 2] := lit_at X [0, 2, 2]
      replace f48 := f48.later (kept_new X (.cells #[.int .i64 0, .int .i64 2, .int .i64 2] 3))
      replace hW' := kept_trans hW' (kept_new X (.cells #[.int .i64 0, .int .i64 2, .int .i64 2] 3))
      refine hK _ _ ⟨hW', ?_⟩
      clear hK K'
      (try simp only [Act.put, List.setIfInBounds_toArray, List.set_cons_zero, List.set_cons_succ])
      rw [show (fsH 67 24 [25]).setIfInBounds 26 true = (fsH 67 24 [25, 26]) from by kernel_rfl]
      exact H24_25_26 _ _ _ _ _ _ _ _ _ _ _ _ _ _ _ _ _ _ _ _ _ _ _ _ _ _ _ _ _ _ _ _ _ _ _ _ _ _ _ _ _ _ _ _ _ _ _ _ _ _ _ _ _ _ _ _ _ _ _ _ _ _ _ _ _ _ hW' f48 f49
  have H25 : ∀ (s0 s23 s24 s25 s26 s27 s28 s29 s30 s31 s32 s33 s34 s35 s36 s37 s38 s39 s40 s41 s42 s43 s44 s46 s48 s49 s50 s51 s52 s53 s54 s55 s56 s57 s58 s59 s60 s61 s62 s63 s64 s65 s66 s67 s68 s69 s70 s71 s72 s73 s74 s75 s76 s77 s78 s79 s80 s81 s82 s83 s84 s85 s86 s87 s88 : Value) (v47 : Value) (X : World), Below W0.heap.size W0 X → RowsAt X v47 [[0, 2], [0, 2, 2]] → wpAnyH Tryz.prog .any ops QQ (fun Z => Below W0.heap.size W0 Z) 42 (fsH 67 25 []) ({ tmps := #[s0, .pointer (some ⟨b1, 0, none⟩), .int .i64 0, u3, .int .i64 110, .pointer (some ⟨b5, 0, none⟩), u6, u7, u8, u9, u10, u11, u12, u13, u14, u15, u16, u17, u18, u19, u20, u21, u22, s23, s24, s25, s26, s27, s28, s29, s30, s31, s32, s33, s34, s35, s36, s37, s38, s39, s40, s41, s42, s43, s44, .bool true, s46, v47, s48, s49, s50, s51, s52, s53, s54, s55, s56, s57, s58, s59, s60, s61, s62, s63, s64, s65, s66, s67, s68, s69, s70, s71, s72, s73, s74, s75, s76, s77, s78, s79, s80, s81, s82, s83, s84, s85, s86, s87, s88], defers := [] }) X := by
    as_aux_lemma =>
    intro s0 s23 s24 s25 s26 s27 s28 s29 s30 s31 s32 s33 s34 s35 s36 s37 s38 s39 s40 s41 s42 s43 s44 s46 s48 s49 s50 s51 s52 s53 s54 s55 s56 s57 s58 s59 s60 s61 s62 s63 s64 s65 s66 s67 s68 s69 s70 s71 s72 s73 s74 s75 s76 s77 s78 s79 s80 s81 s82 s83 s84 s85 s86 s87 s88 v47 X hW' f47
    refine wpAnyH_all (rs := [25, 26]) (by rw [← hops]; kernel_rfl) (by simp) ?_
    intro ix hix
    simp only [List.mem_cons, List.not_mem_nil, or_false] at hix
    rcases hix with rfl | rfl
    · refine held_op hop25 (by rw [← hops]; kernel_rfl) (fun K' hK => ?_)
      go_simp
      have f48 : NmsAt (X.alloc (.cells #[.int .i64 0, .int .i64 2] 3)) (.slice (some ⟨X.heap.size, 0, none⟩) 2 2) [0, 2] := lit_at X [0, 2]
      replace f47 := f47.later (kept_new X (.cells #[.int .i64 0, .int .i64 2] 3))
      replace hW' := kept_trans hW' (kept_new X (.cells #[.int .i64 0, .int .i64 2] 3))
      refine hK _ _ ⟨hW', ?_⟩
      clear hK K'
      (try simp only [Act.put, List.setIfInBounds_toArray, List.set_cons_zero, List.set_cons_succ])
      rw [show (fsH 67 25 []).setIfInBounds 25 true = (fsH 67 26 []) from by kernel_rfl]
      exact H26 _ _ _ _ _ _ _ _ _ _ _ _ _ _ _ _ _ _ _ _ _ _ _ _ _ _ _ _ _ _ _ _ _ _ _ _ _ _ _ _ _ _ _ _ _ _ _ _ _ _ _ _ _ _ _ _ _ _ _ _ _ _ _ _ _ _ _ hW' f47 f48
    · refine held_op hop26 (by rw [← hops]; kernel_rfl) (fun K' hK => ?_)
      go_simp
      have f49 : NmsAt (X.alloc (.cells #[.int .i64 0, .int .i64 2, .int .i64 2] 3)) (.slice (some ⟨X.heap.size, 0, none⟩) 3 3) [0, 2, 2] := lit_at X [0, 2, 2]
      replace f47 := f47.later (kept_new X (.cells #[.int .i64 0, .int .i64 2, .int .i64 2] 3))
      replace hW' := kept_trans hW' (kept_new X (.cells #[.int .i64 0, .int .i64 2, .int .i64 2] 3))
      refine hK _ _ ⟨hW', ?_⟩
      clear hK K'
      (try simp only [Act.put, List.setIfInBounds_toArray, List.set_cons_zero, List.set_cons_succ])
      rw [show (fsH 67 25 []).setIfInBounds 26 true = (fsH 67 25 [26]) from by kernel_rfl]
      exact H25_26 _ _ _ _ _ _ _ _ _ _ _ _ _ _ _ _ _ _ _ _ _ _ _ _ _ _ _ _ _ _ _ _ _ _ _ _ _ _ _ _ _ _ _ _ _ _ _ _ _ _ _ _ _ _ _ _ _ _ _ _ _ _ _ _ _ _ _ hW' f47 f49
  have H24 : ∀ (s0 s23 s24 s25 s26 s27 s28 s29 s30 s31 s32 s33 s34 s35 s36 s37 s38 s39 s40 s41 s42 s43 s44 s47 s48 s49 s50 s51 s52 s53 s54 s55 s56 s57 s58 s59 s60 s61 s62 s63 s64 s65 s66 s67 s68 s69 s70 s71 s72 s73 s74 s75 s76 s77 s78 s79 s80 s81 s82 s83 s84 s85 s86 s87 s88 : Value) (X : World), Below W0.heap.size W0 X → wpAnyH Tryz.prog .any ops QQ (fun Z => Below W0.heap.size W0 Z) 43 (fsH 67 24 []) ({ tmps := #[s0, .pointer (some ⟨b1, 0, none⟩), .int .i64 0, u3, .int .i64 110, .pointer (some ⟨b5, 0, none⟩), u6, u7, u8, u9, u10, u11, u12, u13, u14, u15, u16, u17, u18, u19, u20, u21, u22, s23, s24, s25, s26, s27, s28, s29, s30, s31, s32, s33, s34, s35, s36, s37, s38, s39, s40, s41, s42, s43, s44, .bool true, auV (.slice a1 3 c1) (.slice aa 1 ca) 9, s47, s48, s49, s50, s51, s52, s53, s54, s55, s56, s57, s58, s59, s60, s61, s62, s63, s64, s65, s66, s67, s68, s69, s70, s71, s72, s73, s74, s75, s76, s77, s78, s79, s80, s81, s82, s83, s84, s85, s86, s87, s88], defers := [] }) X := by
    as_aux_lemma =>
    intro s0 s23 s24 s25 s26 s27 s28 s29 s30 s31 s32 s33 s34 s35 s36 s37 s38 s39 s40 s41 s42 s43 s44 s47 s48 s49 s50 s51 s52 s53 s54 s55 s56 s57 s58 s59 s60 s61 s62 s63 s64 s65 s66 s67 s68 s69 s70 s71 s72 s73 s74 s75 s76 s77 s78 s79 s80 s81 s82 s83 s84 s85 s86 s87 s88 X hW'
    refine wpAnyH_all (rs := [24, 25, 26]) (by rw [← hops]; kernel_rfl) (by simp) ?_
    intro ix hix
    simp only [List.mem_cons, List.not_mem_nil, or_false] at hix
    rcases hix with rfl | rfl | rfl
    · refine held_op hop24 (by rw [← hops]; kernel_rfl) (fun K' hK => ?_)
      go_simp
      refine (D24.out X hW').mono ?_
      rintro e Y ⟨v47, rfl, f47, hb⟩
      dsimp only
      replace hW' := kept_trans hW' hb
      refine hK _ _ ⟨hW', ?_⟩
      clear hK K'
      (try simp only [Act.put, List.setIfInBounds_toArray, List.set_cons_zero, List.set_cons_succ])
      rw [show (fsH 67 24 []).setIfInBounds 24 true = (fsH 67 25 []) from by kernel_rfl]
      exact H25 _ _ _ _ _ _ _ _ _ _ _ _ _ _ _ _ _ _ _ _ _ _ _ _ _ _ _ _ _ _ _ _ _ _ _ _ _ _ _ _ _ _ _ _ _ _ _ _ _ _ _ _ _ _ _ _ _ _ _ _ _ _ _ _ _ _ _ hW' f47
    · refine held_op hop25 (by rw [← hops]; kernel_rfl) (fun K' hK => ?_)
      go_simp
      have f48 : NmsAt (X.alloc (.cells #[.int .i64 0, .int .i64 2] 3)) (.slice (some ⟨X.heap.size, 0, none⟩) 2 2) [0, 2] := lit_at X [0, 2]
      replace hW' := kept_trans hW' (kept_new X (.cells #[.int .i64 0, .int .i64 2] 3))
      refine hK _ _ ⟨hW', ?_⟩
      clear hK K'
      (try simp only [Act.put, List.setIfInBounds_toArray, List.set_cons_zero, List.set_cons_succ])
      rw [show (fsH 67 24 []).setIfInBounds 25 true = (fsH 67 24 [25]) from by kernel_rfl]
      exact H24_25 _ _ _ _ _ _ _ _ _ _ _ _ _ _ _ _ _ _ _ _ _ _ _ _ _ _ _ _ _ _ _ _ _ _ _ _ _ _ _ _ _ _ _ _ _ _ _ _ _ _ _ _ _ _ _ _ _ _ _ _ _ _ _ _ _ _ hW' f48
    · refine held_op hop26 (by rw [← hops]; kernel_rfl) (fun K' hK => ?_)
      go_simp
      have f49 : NmsAt (X.alloc (.cells #[.int .i64 0, .int .i64 2, .int .i64 2] 3)) (.slice (some ⟨X.heap.size, 0, none⟩) 3 3) [0, 2, 2] := lit_at X [0, 2, 2]
      replace hW' := kept_trans hW' (kept_new X (.cells #[.int .i64 0, .int .i64 2, .int .i64 2] 3))
      refine hK _ _ ⟨hW', ?_⟩
      clear hK K'
      (try simp only [Act.put, List.setIfInBounds_toArray, List.set_cons_zero, List.set_cons_succ])
      rw [show (fsH 67 24 []).setIfInBounds 26 true = (fsH 67 24 [26]) from by kernel_rfl]
      exact H24_26 _ _ _ _ _ _ _ _ _ _ _ _ _ _ _ _ _ _ _ _ _ _ _ _ _ _ _ _ _ _ _ _ _ _ _ _ _ _ _ _ _ _ _ _ _ _ _ _ _ _ _ _ _ _ _ _ _ _ _ _ _ _ _ _ _ _ hW' f49
  have H19 : ∀ (s0 s23 s24 s25 s26 s27 s28 s29 s30 s31 s32 s33 s34 s35 s36 s37 s39 s42 s43 s44 s45 s46 s47 s48 s49 s50 s51 s52 s53 s54 s55 s56 s57 s58 s59 s60 s61 s62 s63 s64 s65 s66 s67 s68 s69 s70 s71 s72 s73 s74 s75 s76 s77 s78 s79 s80 s81 s82 s83 s84 s85 s86 s87 s88 : Value) (p40 : Nat) (X : World), Below W0.heap.size W0 X → StsL X (.slice (some ⟨p40, 0, none⟩) 1 1) [(⟨0, 0, false, [], 0, false⟩, .slice none 0 0)] → wpAnyH Tryz.prog .any ops QQ (fun Z => Below W0.heap.size W0 Z) 48 (fsH 67 19 []) ({ tmps := #[s0, .pointer (some ⟨b1, 0, none⟩), .int .i64 0, u3, .int .i64 110, .pointer (some ⟨b5, 0, none⟩), u6, u7, u8, u9, u10, u11, u12, u13, u14, u15, u16, u17, u18, u19, u20, u21, u22, s23, s24, s25, s26, s27, s28, s29, s30, s31, s32, s33, s34, s35, s36, s37, .bool true, s39, .slice (some ⟨p40, 0, none⟩) 1 1, auV (.slice (some ⟨p40, 0, none⟩) 1 1) (.slice none 0 0) 0, s42, s43, s44, s45, s46, s47, s48, s49, s50, s51, s52, s53, s54, s55, s56, s57, s58, s59, s60, s61, s62, s63, s64, s65, s66, s67, s68, s69, s70, s71, s72, s73, s74, s75, s76, s77, s78, s79, s80, s81, s82, s83, s84, s85, s86, s87, s88], defers := [] }) X := by
    as_aux_lemma =>
    intro s0 s23 s24 s25 s26 s27 s28 s29 s30 s31 s32 s33 s34 s35 s36 s37 s39 s42 s43 s44 s45 s46 s47 s48 s49 s50 s51 s52 s53 s54 s55 s56 s57 s58 s59 s60 s61 s62 s63 s64 s65 s66 s67 s68 s69 s70 s71 s72 s73 s74 s75 s76 s77 s78 s79 s80 s81 s82 s83 s84 s85 s86 s87 s88 p40 X hW' f40
    refine wpAnyH_all (rs := [19]) (by rw [← hops]; kernel_rfl) (by simp) ?_
    intro ix hix
    simp only [List.mem_cons, List.not_mem_nil, or_false] at hix
    rcases hix with rfl
    · refine held_op hop19 (by rw [← hops]; kernel_rfl) (fun K' hK => ?_)
      go_simp
      refine (rightZ X f40).mono ?_
      rintro e Y ⟨rfl, hb⟩
      dsimp only
      replace hW' := kept_trans hW' hb
      refine hK _ _ ⟨hW', ?_⟩
      clear hK K'
      (try simp only [Act.put, List.setIfInBounds_toArray, List.set_cons_zero, List.set_cons_succ])
      rw [show (fsH 67 19 []).setIfInBounds 19 true = (fsH 67 20 []) from by kernel_rfl]
      refine wpAnyH_take (i := 20) (v := .bool true) hop20 hNS (by rw [← hops]; kernel_rfl) (by rw [← hops]; kernel_rfl) (hQp _ _) (.inl ⟨(by rw [← hops]; kernel_rfl), fun wz hz => by
          have hW' := hz
          first | (go_simp; done) | (obtain ⟨z0, z1, z2, z3, z4, z5⟩ := hF.out _ hW'; go_simp)⟩) hW' ?_
      (try simp only [Act.put, List.setIfInBounds_toArray, List.set_cons_zero, List.set_cons_succ])
      rw [show (fsH 67 20 []).setIfInBounds 20 true = (fsH 67 21 []) from by kernel_rfl]
      refine wpAnyH_take (i := 21) (v := .bool true) hop21 hNS (by rw [← hops]; kernel_rfl) (by rw [← hops]; kernel_rfl) (hQp _ _) (.inl ⟨(by rfl), fun wz hz => by
          have hW' := hz
          first | (go_simp; done) | (obtain ⟨z0, z1, z2, z3, z4, z5⟩ := hF.out _ hW'; go_simp)⟩) hW' ?_
      (try simp only [Act.put, List.setIfInBounds_toArray, List.set_cons_zero, List.set_cons_succ])
      rw [show (fsH 67 21 []).setIfInBounds 21 true = (fsH 67 22 []) from by kernel_rfl]
      refine wpAnyH_take (i := 22) (v := .bool true) hop22 hNS (by rw [← hops]; kernel_rfl) (by rw [← hops]; kernel_rfl) (hQp _ _) (.inl ⟨(by rfl), fun wz hz => by
          have hW' := hz
          first | (go_simp; done) | (obtain ⟨z0, z1, z2, z3, z4, z5⟩ := hF.out _ hW'; go_simp)⟩) hW' ?_
      (try simp only [Act.put, List.setIfInBounds_toArray, List.set_cons_zero, List.set_cons_succ])
      rw [show (fsH 67 22 []).setIfInBounds 22 true = (fsH 67 23 []) from by kernel_rfl]
      refine wpAnyH_take (i := 23) (v := auV (.slice a1 3 c1) (.slice aa 1 ca) 9) hop23 hNS (by rw [← hops]; kernel_rfl) (by rw [← hops]; kernel_rfl) (hQp _ _) (.inl ⟨(by rw [← hops]; kernel_rfl), fun wz hz => by
          have hW' := hz
          first | (go_simp; done) | (obtain ⟨z0, z1, z2, z3, z4, z5⟩ := hF.out _ hW'; go_simp)⟩) hW' ?_
      (try simp only [Act.put, List.setIfInBounds_toArray, List.set_cons_zero, List.set_cons_succ])
      rw [show (fsH 67 23 []).setIfInBounds 23 true = (fsH 67 24 []) from by kernel_rfl]
      exact H24 _ _ _ _ _ _ _ _ _ _ _ _ _ _ _ _ _ _ _ _ _ _ _ _ _ _ _ _ _ _ _ _ _ _ _ _ _ _ _ _ _ _ _ _ _ _ _ _ _ _ _ _ _ _ _ _ _ _ _ _ _ _ _ _ _ _ hW' 
  have H17 : ∀ (s0 s23 s24 s25 s26 s27 s28 s29 s30 s31 s32 s33 s34 s35 s36 s37 s40 s41 s42 s43 s44 s45 s46 s47 s48 s49 s50 s51 s52 s53 s54 s55 s56 s57 s58 s59 s60 s61 s62 s63 s64 s65 s66 s67 s68 s69 s70 s71 s72 s73 s74 s75 s76 s77 s78 s79 s80 s81 s82 s83 s84 s85 s86 s87 s88 : Value) (X : World), Below W0.heap.size W0 X → wpAnyH Tryz.prog .any ops QQ (fun Z => Below W0.heap.size W0 Z) 50 (fsH 67 17 []) ({ tmps := #[s0, .pointer (some ⟨b1, 0, none⟩), .int .i64 0, u3, .int .i64 110, .pointer (some ⟨b5, 0, none⟩), u6, u7, u8, u9, u10, u11, u12, u13, u14, u15, u16, u17, u18, u19, u20, u21, u22, s23, s24, s25, s26, s27, s28, s29, s30, s31, s32, s33, s34, s35, s36, s37, .bool true, .agg #[.int .i64 0, .int .i64 0, .bool false, .slice none 0 0, .int .i64 0, .bool false], s40, s41, s42, s43, s44, s45, s46, s47, s48, s49, s50, s51, s52, s53, s54, s55, s56, s57, s58, s59, s60, s61, s62, s63, s64, s65, s66, s67, s68, s69, s70, s71, s72, s73, s74, s75, s76, s77, s78, s79, s80, s81, s82, s83, s84, s85, s86, s87, s88], defers := [] }) X := by
    as_aux_lemma =>
    intro s0 s23 s24 s25 s26 s27 s28 s29 s30 s31 s32 s33 s34 s35 s36 s37 s40 s41 s42 s43 s44 s45 s46 s47 s48 s49 s50 s51 s52 s53 s54 s55 s56 s57 s58 s59 s60 s61 s62 s63 s64 s65 s66 s67 s68 s69 s70 s71 s72 s73 s74 s75 s76 s77 s78 s79 s80 s81 s82 s83 s84 s85 s86 s87 s88 X hW'
    refine wpAnyH_all (rs := [17]) (by rw [← hops]; kernel_rfl) (by simp) ?_
    intro ix hix
    simp only [List.mem_cons, List.not_mem_nil, or_false] at hix
    rcases hix with rfl
    · refine held_op hop17 (by rw [← hops]; kernel_rfl) (fun K' hK => ?_)
      refine lit_state (.tmp 39) 0 0 0 false false none 0 0 rfl (by rfl) ?_
      have f40 : StsL (X.alloc (.cells #[.int .i64 0, .int .i64 0, .bool false, .slice none 0 0, .int .i64 0, .bool false] 41)) (.slice (some ⟨X.heap.size, 0, none⟩) 1 1) [(⟨0, 0, false, [], 0, false⟩, .slice none 0 0)] := lit_sts X
      obtain ⟨p40, hp40⟩ : ∃ p, X.heap.size = p := ⟨_, rfl⟩
      rw [hp40] at f40 ⊢
      clear hp40
      replace hW' := kept_trans hW' (kept_new X (.cells #[.int .i64 0, .int .i64 0, .bool false, .slice none 0 0, .int .i64 0, .bool false] 41))
      refine hK _ _ ⟨hW', ?_⟩
      clear hK K'
      (try simp only [Act.put, List.setIfInBounds_toArray, List.set_cons_zero, List.set_cons_succ])
      rw [show (fsH 67 17 []).setIfInBounds 17 true = (fsH 67 18 []) from by kernel_rfl]
      refine wpAnyH_take (i := 18) (v := auV (.slice (some ⟨p40, 0, none⟩) 1 1) (.slice none 0 0) 0) hop18 hNS (by rw [← hops]; kernel_rfl) (by rw [← hops]; kernel_rfl) (hQp _ _) (.inl ⟨(by rw [← hops]; kernel_rfl), fun wz hz => by
          have hW' := hz
          first | (go_simp; done) | (obtain ⟨z0, z1, z2, z3, z4, z5⟩ := hF.out _ hW'; go_simp)⟩) hW' ?_
      (try simp only [Act.put, List.setIfInBounds_toArray, List.set_cons_zero, List.set_cons_succ])
      rw [show (fsH 67 18 []).setIfInBounds 18 true = (fsH 67 19 []) from by kernel_rfl]
      exact H19 _ _ _ _ _ _ _ _ _ _ _ _ _ _ _ _ _ _ _ _ _ _ _ _ _ _ _ _ _ _ _ _ _ _ _ _ _ _ _ _ _ _ _ _ _ _ _ _ _ _ _ _ _ _ _ _ _ _ _ _ _ _ _ _ _ _ hW' f40
  have H13 : ∀ (s0 s23 s24 s25 s26 s27 s28 s29 s30 s31 s32 s33 s36 s37 s38 s39 s40 s41 s42 s43 s44 s45 s46 s47 s48 s49 s50 s51 s52 s53 s54 s55 s56 s57 s58 s59 s60 s61 s62 s63 s64 s65 s66 s67 s68 s69 s70 s71 s72 s73 s74 s75 s76 s77 s78 s79 s80 s81 s82 s83 s84 s85 s86 s87 s88 : Value) (X : World), Below W0.heap.size W0 X → wpAnyH Tryz.prog .any ops QQ (fun Z => Below W0.heap.size W0 Z) 54 (fsH 67 13 []) ({ tmps := #[s0, .pointer (some ⟨b1, 0, none⟩), .int .i64 0, u3, .int .i64 110, .pointer (some ⟨b5, 0, none⟩), u6, u7, u8, u9, u10, u11, u12, u13, u14, u15, u16, u17, u18, u19, u20, u21, u22, s23, s24, s25, s26, s27, s28, s29, s30, s31, s32, s33, .bool true, auV (.slice a1 3 c1) (.slice aa 1 ca) 9, s36, s37, s38, s39, s40, s41, s42, s43, s44, s45, s46, s47, s48, s49, s50, s51, s52, s53, s54, s55, s56, s57, s58, s59, s60, s61, s62, s63, s64, s65, s66, s67, s68, s69, s70, s71, s72, s73, s74, s75, s76, s77, s78, s79, s80, s81, s82, s83, s84, s85, s86, s87, s88], defers := [] }) X := by
    as_aux_lemma =>
    intro s0 s23 s24 s25 s26 s27 s28 s29 s30 s31 s32 s33 s36 s37 s38 s39 s40 s41 s42 s43 s44 s45 s46 s47 s48 s49 s50 s51 s52 s53 s54 s55 s56 s57 s58 s59 s60 s61 s62 s63 s64 s65 s66 s67 s68 s69 s70 s71 s72 s73 s74 s75 s76 s77 s78 s79 s80 s81 s82 s83 s84 s85 s86 s87 s88 X hW'
    refine wpAnyH_all (rs := [13]) (by rw [← hops]; kernel_rfl) (by simp) ?_
    intro ix hix
    simp only [List.mem_cons, List.not_mem_nil, or_false] at hix
    rcases hix with rfl
    · refine held_op hop13 (by rw [← hops]; kernel_rfl) (fun K' hK => ?_)
      go_simp
      refine (D13.out X hW').mono ?_
      rintro e Y ⟨rfl, hb⟩
      dsimp only
      replace hW' := kept_trans hW' hb
      refine hK _ _ ⟨hW', ?_⟩
      clear hK K'
      (try simp only [Act.put, List.setIfInBounds_toArray, List.set_cons_zero, List.set_cons_succ])
      rw [show (fsH 67 13 []).setIfInBounds 13 true = (fsH 67 14 []) from by kernel_rfl]
      refine wpAnyH_take (i := 14) (v := .bool true) hop14 hNS (by rw [← hops]; kernel_rfl) (by rw [← hops]; kernel_rfl) (hQp _ _) (.inl ⟨(by rfl), fun wz hz => by
          have hW' := hz
          first | (go_simp; done) | (obtain ⟨z0, z1, z2, z3, z4, z5⟩ := hF.out _ hW'; go_simp)⟩) hW' ?_
      (try simp only [Act.put, List.setIfInBounds_toArray, List.set_cons_zero, List.set_cons_succ])
      rw [show (fsH 67 14 []).setIfInBounds 14 true = (fsH 67 15 []) from by kernel_rfl]
      refine wpAnyH_take (i := 15) (v := .bool true) hop15 hNS (by rw [← hops]; kernel_rfl) (by rw [← hops]; kernel_rfl) (hQp _ _) (.inl ⟨(by rfl), fun wz hz => by
          have hW' := hz
          first | (go_simp; done) | (obtain ⟨z0, z1, z2, z3, z4, z5⟩ := hF.out _ hW'; go_simp)⟩) hW' ?_
      (try simp only [Act.put, List.setIfInBounds_toArray, List.set_cons_zero, List.set_cons_succ])
      rw [show (fsH 67 15 []).setIfInBounds 15 true = (fsH 67 16 []) from by kernel_rfl]
      refine wpAnyH_take (i := 16) (v := .agg #[.int .i64 0, .int .i64 0, .bool false, .slice none 0 0, .int .i64 0, .bool false]) hop16 hNS (by rw [← hops]; kernel_rfl) (by rw [← hops]; kernel_rfl) (hQp _ _) (.inl ⟨(by rw [← hops]; kernel_rfl), fun wz hz => by
          have hW' := hz
          first | (go_simp; done) | (obtain ⟨z0, z1, z2, z3, z4, z5⟩ := hF.out _ hW'; go_simp)⟩) hW' ?_
      (try simp only [Act.put, List.setIfInBounds_toArray, List.set_cons_zero, List.set_cons_succ])
      rw [show (fsH 67 16 []).setIfInBounds 16 true = (fsH 67 17 []) from by kernel_rfl]
      exact H17 _ _ _ _ _ _ _ _ _ _ _ _ _ _ _ _ _ _ _ _ _ _ _ _ _ _ _ _ _ _ _ _ _ _ _ _ _ _ _ _ _ _ _ _ _ _ _ _ _ _ _ _ _ _ _ _ _ _ _ _ _ _ _ _ _ _ hW' 
  have H9 : ∀ (s0 s23 s24 s25 s26 s27 s28 s32 s33 s34 s35 s36 s37 s38 s39 s40 s41 s42 s43 s44 s45 s46 s47 s48 s49 s50 s51 s52 s53 s54 s55 s56 s57 s58 s59 s60 s61 s62 s63 s64 s65 s66 s67 s68 s69 s70 s71 s72 s73 s74 s75 s76 s77 s78 s79 s80 s81 s82 s83 s84 s85 s86 s87 s88 : Value) (X : World), Below W0.heap.size W0 X → wpAnyH Tryz.prog .any ops QQ (fun Z => Below W0.heap.size W0 Z) 58 (fsH 67 9 []) ({ tmps := #[s0, .pointer (some ⟨b1, 0, none⟩), .int .i64 0, u3, .int .i64 110, .pointer (some ⟨b5, 0, none⟩), u6, u7, u8, u9, u10, u11, u12, u13, u14, u15, u16, u17, u18, u19, u20, u21, u22, s23, s24, s25, s26, s27, s28, .bool true, auV (.slice a1 3 c1) (.slice aa 1 ca) 9, auV (.slice a5 3 c5) (.slice ab 1 cb) 9, s32, s33, s34, s35, s36, s37, s38, s39, s40, s41, s42, s43, s44, s45, s46, s47, s48, s49, s50, s51, s52, s53, s54, s55, s56, s57, s58, s59, s60, s61, s62, s63, s64, s65, s66, s67, s68, s69, s70, s71, s72, s73, s74, s75, s76, s77, s78, s79, s80, s81, s82, s83, s84, s85, s86, s87, s88], defers := [] }) X := by
    as_aux_lemma =>
    intro s0 s23 s24 s25 s26 s27 s28 s32 s33 s34 s35 s36 s37 s38 s39 s40 s41 s42 s43 s44 s45 s46 s47 s48 s49 s50 s51 s52 s53 s54 s55 s56 s57 s58 s59 s60 s61 s62 s63 s64 s65 s66 s67 s68 s69 s70 s71 s72 s73 s74 s75 s76 s77 s78 s79 s80 s81 s82 s83 s84 s85 s86 s87 s88 X hW'
    refine wpAnyH_all (rs := [9]) (by rw [← hops]; kernel_rfl) (by simp) ?_
    intro ix hix
    simp only [List.mem_cons, List.not_mem_nil, or_false] at hix
    rcases hix with rfl
    · refine held_op hop9 (by rw [← hops]; kernel_rfl) (fun K' hK => ?_)
      go_simp
      refine (D9.out X hW').mono ?_
      rintro e Y ⟨rfl, hb⟩
      dsimp only
      replace hW' := kept_trans hW' hb
      refine hK _ _ ⟨hW', ?_⟩
      clear hK K'
      (try simp only [Act.put, List.setIfInBounds_toArray, List.set_cons_zero, List.set_cons_succ])
      rw [show (fsH 67 9 []).setIfInBounds 9 true = (fsH 67 10 []) from by kernel_rfl]
      refine wpAnyH_take (i := 10) (v := .bool true) hop10 hNS (by rw [← hops]; kernel_rfl) (by rw [← hops]; kernel_rfl) (hQp _ _) (.inl ⟨(by rfl), fun wz hz => by
          have hW' := hz
          first | (go_simp; done) | (obtain ⟨z0, z1, z2, z3, z4, z5⟩ := hF.out _ hW'; go_simp)⟩) hW' ?_
      (try simp only [Act.put, List.setIfInBounds_toArray, List.set_cons_zero, List.set_cons_succ])
      rw [show (fsH 67 10 []).setIfInBounds 10 true = (fsH 67 11 []) from by kernel_rfl]
      refine wpAnyH_take (i := 11) (v := .bool true) hop11 hNS (by rw [← hops]; kernel_rfl) (by rw [← hops]; kernel_rfl) (hQp _ _) (.inl ⟨(by rfl), fun wz hz => by
          have hW' := hz
          first | (go_simp; done) | (obtain ⟨z0, z1, z2, z3, z4, z5⟩ := hF.out _ hW'; go_simp)⟩) hW' ?_
      (try simp only [Act.put, List.setIfInBounds_toArray, List.set_cons_zero, List.set_cons_succ])
      rw [show (fsH 67 11 []).setIfInBounds 11 true = (fsH 67 12 []) from by kernel_rfl]
      refine wpAnyH_take (i := 12) (v := auV (.slice a1 3 c1) (.slice aa 1 ca) 9) hop12 hNS (by rw [← hops]; kernel_rfl) (by rw [← hops]; kernel_rfl) (hQp _ _) (.inl ⟨(by rw [← hops]; kernel_rfl), fun wz hz => by
          have hW' := hz
          first | (go_simp; done) | (obtain ⟨z0, z1, z2, z3, z4, z5⟩ := hF.out _ hW'; go_simp)⟩) hW' ?_
      (try simp only [Act.put, List.setIfInBounds_toArray, List.set_cons_zero, List.set_cons_succ])
      rw [show (fsH 67 12 []).setIfInBounds 12 true = (fsH 67 13 []) from by kernel_rfl]
      exact H13 _ _ _ _ _ _ _ _ _ _ _ _ _ _ _ _ _ _ _ _ _ _ _ _ _ _ _ _ _ _ _ _ _ _ _ _ _ _ _ _ _ _ _ _ _ _ _ _ _ _ _ _ _ _ _ _ _ _ _ _ _ _ _ _ _ _ hW' 
  have hsz : ops.size = 67 := by rw [← hops]; rfl
  rw [hsz]
  rw [show Array.replicate 67 false = (fsH 67 0 []) from by rfl]
  refine wpAnyH_take (i := 0) (v := .int .i64 0) hop0 hNS (by rw [← hops]; kernel_rfl) (by rw [← hops]; kernel_rfl) (hQp _ _) (.inl ⟨(by rfl), fun wz hz => by
      have hW' := hz
      first | (go_simp; done) | (obtain ⟨z0, z1, z2, z3, z4, z5⟩ := hF.out _ hW'; go_simp)⟩) hW' ?_
  (try simp only [Act.put, List.setIfInBounds_toArray, List.set_cons_zero, List.set_cons_succ])
  rw [show (fsH 67 0 []).setIfInBounds 0 true = (fsH 67 1 []) from by kernel_rfl]
  refine wpAnyH_take (i := 1) (v := .bool true) hop1 hNS (by rw [← hops]; kernel_rfl) (by rw [← hops]; kernel_rfl) (hQp _ _) (.inl ⟨(by rfl), fun wz hz => by
      have hW' := hz
      first | (go_simp; done) | (obtain ⟨z0, z1, z2, z3, z4, z5⟩ := hF.out _ hW'; go_simp)⟩) hW' ?_
  (try simp only [Act.put, List.setIfInBounds_toArray, List.set_cons_zero, List.set_cons_succ])
  rw [show (fsH 67 1 []).setIfInBounds 1 true = (fsH 67 2 []) from by kernel_rfl]
  refine wpAnyH_take (i := 2) (v := .bool true) hop2 hNS (by rw [← hops]; kernel_rfl) (by rw [← hops]; kernel_rfl) (hQp _ _) (.inl ⟨(by rfl), fun wz hz => by
      have hW' := hz
      first | (go_simp; done) | (obtain ⟨z0, z1, z2, z3, z4, z5⟩ := hF.out _ hW'; go_simp)⟩) hW' ?_
  (try simp only [Act.put, List.setIfInBounds_toArray, List.set_cons_zero, List.set_cons_succ])
  rw [show (fsH 67 2 []).setIfInBounds 2 true = (fsH 67 3 []) from by kernel_rfl]
  refine wpAnyH_take (i := 3) (v := .int .i64 110) hop3 hNS (by rw [← hops]; kernel_rfl) (by rw [← hops]; kernel_rfl) (hQp _ _) (.inl ⟨(by rw [← hops]; kernel_rfl), fun wz hz => by
      have hW' := hz
      first | (go_simp; done) | (obtain ⟨z0, z1, z2, z3, z4, z5⟩ := hF.out _ hW'; go_simp)⟩) hW' ?_
  (try simp only [Act.put, List.setIfInBounds_toArray, List.set_cons_zero, List.set_cons_succ])
  rw [show (fsH 67 3 []).setIfInBounds 3 true = (fsH 67 4 []) from by kernel_rfl]
  refine wpAnyH_take (i := 4) (v := .bool true) hop4 hNS (by rw [← hops]; kernel_rfl) (by rw [← hops]; kernel_rfl) (hQp _ _) (.inl ⟨(by rw [← hops]; kernel_rfl), fun wz hz => by
      have hW' := hz
      first | (go_simp; done) | (obtain ⟨z0, z1, z2, z3, z4, z5⟩ := hF.out _ hW'; go_simp)⟩) hW' ?_
  (try simp only [Act.put, List.setIfInBounds_toArray, List.set_cons_zero, List.set_cons_succ])
  rw [show (fsH 67 4 []).setIfInBounds 4 true = (fsH 67 5 []) from by kernel_rfl]
  refine wpAnyH_take (i := 5) (v := .bool true) hop5 hNS (by rw [← hops]; kernel_rfl) (by rw [← hops]; kernel_rfl) (hQp _ _) (.inl ⟨(by rfl), fun wz hz => by
      have hW' := hz
      first | (go_simp; done) | (obtain ⟨z0, z1, z2, z3, z4, z5⟩ := hF.out _ hW'; go_simp)⟩) hW' ?_
  (try simp only [Act.put, List.setIfInBounds_toArray, List.set_cons_zero, List.set_cons_succ])
  rw [show (fsH 67 5 []).setIfInBounds 5 true = (fsH 67 6 []) from by kernel_rfl]
  refine wpAnyH_take (i := 6) (v := .bool true) hop6 hNS (by rw [← hops]; kernel_rfl) (by rw [← hops]; kernel_rfl) (hQp _ _) (.inl ⟨(by rfl), fun wz hz => by
      have hW' := hz
      first | (go_simp; done) | (obtain ⟨z0, z1, z2, z3, z4, z5⟩ := hF.out _ hW'; go_simp)⟩) hW' ?_
  (try simp only [Act.put, List.setIfInBounds_toArray, List.set_cons_zero, List.set_cons_succ])
  rw [show (fsH 67 6 []).setIfInBounds 6 true = (fsH 67 7 []) from by kernel_rfl]
  refine wpAnyH_take (i := 7) (v := auV (.slice a1 3 c1) (.slice aa 1 ca) 9) hop7 hNS (by rw [← hops]; kernel_rfl) (by rw [← hops]; kernel_rfl) (hQp _ _) (.inl ⟨(by rw [← hops]; kernel_rfl), fun wz hz => by
      have hW' := hz
      first | (go_simp; done) | (obtain ⟨z0, z1, z2, z3, z4, z5⟩ := hF.out _ hW'; go_simp)⟩) hW' ?_
  (try simp only [Act.put, List.setIfInBounds_toArray, List.set_cons_zero, List.set_cons_succ])
  rw [show (fsH 67 7 []).setIfInBounds 7 true = (fsH 67 8 []) from by kernel_rfl]
  refine wpAnyH_take (i := 8) (v := auV (.slice a5 3 c5) (.slice ab 1 cb) 9) hop8 hNS (by rw [← hops]; kernel_rfl) (by rw [← hops]; kernel_rfl) (hQp _ _) (.inl ⟨(by rw [← hops]; kernel_rfl), fun wz hz => by
      have hW' := hz
      first | (go_simp; done) | (obtain ⟨z0, z1, z2, z3, z4, z5⟩ := hF.out _ hW'; go_simp)⟩) hW' ?_
  (try simp only [Act.put, List.setIfInBounds_toArray, List.set_cons_zero, List.set_cons_succ])
  rw [show (fsH 67 8 []).setIfInBounds 8 true = (fsH 67 9 []) from by kernel_rfl]
  exact H9 _ _ _ _ _ _ _ _ _ _ _ _ _ _ _ _ _ _ _ _ _ _ _ _ _ _ _ _ _ _ _ _ _ _ _ _ _ _ _ _ _ _ _ _ _ _ _ _ _ _ _ _ _ _ _ _ _ _ _ _ _ _ _ _ _ hW' 
end Go.Proofs.YtccmnngeibpcmaaGreat.Tree
/- The law's standing example tells yes. -/
namespace Go.Proofs.YtccmnngeibpcmaaGreat.Tree
open Go.ChangeShapes Go.WideShapes Go.ChangeAt Go.RowKit
set_option linter.unusedVariables false
set_option linter.unusedSimpArgs false
set_option maxRecDepth 100000
attribute [local go_sem] Oper.semAt_some
theorem newW {v : Value} (w : World) (h : SpsL w v fourL) : Calls Tryz.prog 7 #[ptV v 9] w fun e w' => ∃ a c aa ca, e = .returned (.tuple #[auV (.slice a 3 c) (.slice aa 1 ca) 9, .int .i64 0]) ∧ OwW (.slice a 3 c) (.slice aa 1 ca) w' ∧ Below w.heap.size w w' := by
  refine (new_V 9 ok_four w h).mono ?_
  rintro e w' ⟨sv, av, wn, Ls, er, rfl, h1, ⟨A, h2, h3, -⟩, hb⟩
  obtain ⟨e1, rfl, rfl, rfl⟩ := h3 may_four
  rw [show List.map (fun x => x.1) fourL = [uwA, uwC, uwF, uwG] from rfl] at e1 h2
  rw [auto_four] at e1
  rw [after_four] at h2
  obtain ⟨a, c, rfl⟩ := h1.lit (n := 3) (by have := congrArg List.length e1; simpa using this)
  obtain ⟨aa, ca, rfl, h9⟩ := id h2
  exact ⟨a, c, aa, ca, rfl, ⟨Ls, h1, e1, h2⟩, hb⟩
theorem may_none : mayB [] 0 = false := by kernel_rfl
theorem newN (w : World) : Calls Tryz.prog 7 #[ptV (.slice none 0 0) 0] w fun e w' => ∃ a c aa ca, e = .returned (.tuple #[auV (.slice a 0 c) (.slice aa 0 ca) 0, .int .i64 110]) ∧ Below w.heap.size w w' := by
  refine (new_V 0 ok_nil w ⟨⟨none, 0, rfl, .inl rfl⟩, fun x hx => by cases hx⟩).mono ?_
  rintro e w' ⟨sv, av, wn, Ls, er, rfl, h1, ⟨A, h2, -, h3⟩, hb⟩
  obtain ⟨rfl, rfl, rfl, rfl⟩ := h3 may_none
  obtain ⟨a, c, rfl⟩ := h1.lit (n := 0) rfl
  obtain ⟨aa, ca, rfl, h9⟩ := id h2
  exact ⟨a, c, aa, ca, rfl, hb⟩
theorem want_lit (X : World) {g : Nat} (h : NmsAt X (.slice (some ⟨g, 0, none⟩) 1 1) [1]) : StsL (X.alloc (.cells #[.int .i64 0, .int .i64 0, .bool false, .slice none 0 0, .int .i64 (-1), .bool false, .int .i64 2, .int .i64 1, .bool false, .slice (some ⟨g, 0, none⟩) 1 1, .int .i64 0, .bool true, .int .i64 2, .int .i64 2, .bool false, .slice none 0 0, .int .i64 1, .bool true] 41)) (.slice (some ⟨X.heap.size, 0, none⟩) 3 3)
    [(⟨0, 0, false, [], -1, false⟩, .slice none 0 0), (⟨2, 1, false, [1], 0, true⟩, .slice (some ⟨g, 0, none⟩) 1 1), (⟨2, 2, false, [], 1, true⟩, .slice none 0 0)] := by
  refine ⟨⟨_, _, rfl, cells_lit X [.int .i64 0, .int .i64 0, .bool false, .slice none 0 0, .int .i64 (-1), .bool false, .int .i64 2, .int .i64 1, .bool false, .slice (some ⟨g, 0, none⟩) 1 1, .int .i64 0, .bool true, .int .i64 2, .int .i64 2, .bool false, .slice none 0 0, .int .i64 1, .bool true] 41⟩, fun x hx => ?_⟩
  simp only [List.mem_cons, List.not_mem_nil, or_false] at hx
  rcases hx with rfl | rfl | rfl
  · exact nms_nil _
  · exact h.later (kept_new X _)
  · exact nms_nil _
set_option maxHeartbeats 2000000 in
theorem wakes_any (w : World) : Calls Tryz.prog 6 #[] w fun e w' => e = .returned (.bool true) ∧ Below w.heap.size w w' := by
  have T1 := Lib.hid (twice_any w)
  go_enter Tryz.func6, Tryz.ntmps6
  go_upto_region 3 with (first
    | ((with_reducible refine T1.out.mono ?_); rintro e w1 ⟨p, rfl, hs1, hb1⟩; have Q1 := Lib.hid (newW w1 hs1); have hB1 := Lib.hid hb1)
    | ((with_reducible refine Q1.out.mono ?_); rintro e w2 ⟨a1, c1, aa, ca, rfl, hO, hb2⟩; have hB2 := Lib.hid (kept_trans hB1.out hb2))
    | ((with_reducible refine (newN _).mono ?_); rintro e w4 ⟨a3, c3, ab, cb, rfl, hb4⟩))
  have hk2 := kept_new w2 (.cells #[.slice a1 3 c1, .slice aa 1 ca, .int .i64 9] 30)
  have hk4 := kept_new w4 (.cells #[.slice a3 0 c3, .slice ab 0 cb, .int .i64 0] 30)
  have hb24 := kept_trans hk2 (kept_trans hb4 hk4)
  have hO5 := hO.later hb24
  have hA5 := (AuBox.new w2 (.slice a1 3 c1) (.slice aa 1 ca) 9).later (kept_trans hb4 hk4)
  have hB5 := kept_trans hB2.out hb24
  clear hk2 hk4 hb24 hb4 hO hB2 Q1 T1 hs1 hb1 hb2 hB1
  generalize w4.alloc (.cells #[.slice a3 0 c3, .slice ab 0 cb, .int .i64 0] 30) = w5 at *
  obtain ⟨S, hS⟩ : ∃ S, w5.heap.size = S := ⟨_, rfl⟩
  have k1 := kept_new w5 (.cells #[.int .i64 1] 3)
  have l1 : NmsAt (w5.alloc (.cells #[.int .i64 1] 3)) (.slice (some ⟨w5.heap.size, 0, none⟩) 1 1) [1] := lit_at w5 [1]
  rw [hS] at l1
  have s1 : (w5.alloc (.cells #[.int .i64 1] 3)).heap.size = S + 1 := by simp [hS]
  obtain ⟨w6, hw6⟩ : ∃ w6, w5.alloc (.cells #[.int .i64 1] 3) = w6 := ⟨_, rfl⟩
  rw [hw6] at k1 l1 s1
  have k2 := kept_new w6 (.cells #[.int .i64 0, .int .i64 0, .bool false, .slice none 0 0, .int .i64 (-1), .bool false, .int .i64 2, .int .i64 1, .bool false, .slice (some ⟨S, 0, none⟩) 1 1, .int .i64 0, .bool true, .int .i64 2, .int .i64 2, .bool false, .slice none 0 0, .int .i64 1, .bool true] 41)
  have l2 := want_lit w6 l1
  rw [s1] at l2
  have s2 : (w6.alloc (.cells #[.int .i64 0, .int .i64 0, .bool false, .slice none 0 0, .int .i64 (-1), .bool false, .int .i64 2, .int .i64 1, .bool false, .slice (some ⟨S, 0, none⟩) 1 1, .int .i64 0, .bool true, .int .i64 2, .int .i64 2, .bool false, .slice none 0 0, .int .i64 1, .bool true] 41)).heap.size = S + 1 + 1 := by simp [s1]
  obtain ⟨w7, hw7⟩ : ∃ w7, w6.alloc (.cells #[.int .i64 0, .int .i64 0, .bool false, .slice none 0 0, .int .i64 (-1), .bool false, .int .i64 2, .int .i64 1, .bool false, .slice (some ⟨S, 0, none⟩) 1 1, .int .i64 0, .bool true, .int .i64 2, .int .i64 2, .bool false, .slice none 0 0, .int .i64 1, .bool true] 41) = w7 := ⟨_, rfl⟩
  rw [hw7] at k2 l2 s2
  have k3 := kept_new w7 (.cells #[.int .i64 3] 3)
  have l3 : NmsAt (w7.alloc (.cells #[.int .i64 3] 3)) (.slice (some ⟨w7.heap.size, 0, none⟩) 1 1) [3] := lit_at w7 [3]
  rw [s2] at l3
  have s3 : (w7.alloc (.cells #[.int .i64 3] 3)).heap.size = S + 1 + 1 + 1 := by simp [s2]
  obtain ⟨w8, hw8⟩ : ∃ w8, w7.alloc (.cells #[.int .i64 3] 3) = w8 := ⟨_, rfl⟩
  rw [hw8] at k3 l3 s3
  have k4 := kept_new w8 (.cells #[.slice (some ⟨S + 1, 0, none⟩) 3 3, .slice (some ⟨S + 1 + 1, 0, none⟩) 1 1, .int .i64 9] 30)
  have hA8 := AuBox.new w8 (.slice (some ⟨S + 1, 0, none⟩) 3 3) (.slice (some ⟨S + 1 + 1, 0, none⟩) 1 1) 9
  rw [s3] at hA8
  have kk := kept_trans k1 (kept_trans k2 (kept_trans k3 k4))
  have k34 := kept_trans k3 k4
  have hOL : OwW (.slice (some ⟨S + 1, 0, none⟩) 3 3) (.slice (some ⟨S + 1 + 1, 0, none⟩) 1 1) (w8.alloc (.cells #[.slice (some ⟨S + 1, 0, none⟩) 3 3, .slice (some ⟨S + 1 + 1, 0, none⟩) 1 1, .int .i64 9] 30)) := ⟨_, l2.later k34, rfl, l3.later k4⟩
  have hO9 := hO5.later kk
  have hA9 := hA5.later kk
  have hB9 := kept_trans hB5 kk
  subst hw8 hw7 hw6
  replace hOL := Lib.hid hOL
  replace hO9 := Lib.hid hO9
  replace hA9 := Lib.hid hA9
  replace hA8 := Lib.hid hA8
  replace hB9 := Lib.hid hB9
  clear kk k34 k1 k2 k3 k4 l1 l2 l3 s1 s2 s3 hO5 hA5 hB5
  subst hS
  go_upto_region 4 with fail
  generalize (((w5.alloc (.cells #[.int .i64 1] 3)).alloc (.cells #[.int .i64 0, .int .i64 0, .bool false, .slice none 0 0, .int .i64 (-1), .bool false, .int .i64 2, .int .i64 1, .bool false, .slice (some ⟨w5.heap.size, 0, none⟩) 1 1, .int .i64 0, .bool true, .int .i64 2, .int .i64 2, .bool false, .slice none 0 0, .int .i64 1, .bool true] 41)).alloc (.cells #[.int .i64 3] 3)).alloc (.cells #[.slice (some ⟨w5.heap.size + 1, 0, none⟩) 3 3, .slice (some ⟨w5.heap.size + 1 + 1, 0, none⟩) 1 1, .int .i64 9] 30) = w9 at *
  have hD : Below w9.heap.size w9 w9.drew := below_drew w9
  refine wakes_reg4 w9 (hO9.out.later hD) (hOL.out.later hD) (hA9.out.later hD) (hA8.out.later hD) _ _ _ _ _ _ _ _ _ _ _ _ _ _ _ _ _ _ _ _ _ _ _ _ _ _ _ _ _ _ _ _ _ _ _ _ _ _ _ _ _ _ _ _ _ _ _ _ _ _ _ _ _ _ _ _ _ _ _ _ _ _ _ _ _ _ _ _ _ _ _ _ _ _ _ _ _ _ _ _ _ _ _ _ _ _ ?_
  intro x23 x24 x25 x26 x27 x28 x29 x30 x31 x32 x33 x34 x35 x36 x37 x38 x39 x40 x41 x42 x43 x44 x45 x46 x47 x48 x49 x50 x51 x52 x53 x54 x55 x56 x57 x58 x59 x60 x61 x62 x63 x64 x65 x66 x67 x68 x69 x70 x71 x72 x73 x74 x75 x76 x77 x78 x79 x80 x81 x82 x83 x84 x85 x86 x87 x88 X hX
  have hBX := Lib.hid (kept_trans hB9.out (kept_trans hD hX))
  clear hX hD
  go_wp2_with fail
  go_ret
  exact ⟨rfl, hBX.out⟩
end Go.Proofs.YtccmnngeibpcmaaGreat.Tree
/- NfaRows: the drawn region. -/
namespace Go.Proofs.YtccmnngeibpcmaaGreat.Tree
open Go.ChangeShapes Go.WideShapes Go.ChangeAt Go.RowKit
set_option linter.unusedVariables false
set_option linter.unusedSimpArgs false
set_option maxRecDepth 100000
attribute [local go_sem] Oper.semAt_some
noncomputable def reg3r : Code := (Tryz.f3.body.bind (regOf 6)).getD .skip
set_option maxHeartbeats 8000000 in
theorem rows_reg6 {P P3 n c n1 c1 na ca : Nat} {a a1 aa : Option Addr} {win : Int} {R : List (List Int)} (wr : World)
    (hF0 : Hid (∀ X, Below wr.drew.heap.size wr.drew X → X.cell? ⟨P, 0, none⟩ = some (.slice a n c) ∧ X.cell? ⟨P, 1, none⟩ = some (.int .i64 win) ∧ X.cell? ⟨P3, 0, none⟩ = some (.slice a1 n1 c1) ∧ X.cell? ⟨P3, 1, none⟩ = some (.slice aa na ca) ∧ X.cell? ⟨P3, 2, none⟩ = some (.int .i64 win)))
    (D40 : Hid (∀ X, Below wr.drew.heap.size wr.drew X → Calls Tryz.prog 10 #[auV (.slice a1 n1 c1) (.slice aa na ca) win] X fun e Y => e = .returned (.bool true) ∧ Below X.heap.size X Y))
    (D90 : Hid (∀ X, Below wr.drew.heap.size wr.drew X → Calls Tryz.prog 9 #[auV (.slice a1 n1 c1) (.slice aa na ca) win] X fun e Y => ∃ u, e = .returned u ∧ RowsAt Y u R ∧ Below X.heap.size X Y))
    (D110 : Hid (∀ X, Below wr.drew.heap.size wr.drew X → Calls Tryz.prog 12 #[ptV (.slice a n c) win] X fun e Y => ∃ u, e = .returned u ∧ RowsAt Y u R ∧ Below X.heap.size X Y))
    (D12 : Hid (∀ X u v, RowsAt X u R → RowsAt X v R → Calls Tryz.prog 11 #[u, v] X fun e Y => e = .returned (.bool true) ∧ Below X.heap.size X Y))
    (u0 u2 u5 u6 u7 u8 u9 u10 u11 u12 u13 u14 u15 u16 u17 u18 u19 u20 u21 u22 u23 u24 u25 u26 u27 u28 u29 u30 u31 u32 u33 u34 u35 u58 u59 u60 u61 u62 u63 u64 u65 u66 u67 u68 u69 u70 u71 u72 u73 u74 u75 u76 u77 u78 u79 u80 u81 u82 u83 u84 u85 u86 u87 u88 u89 u90 u91 u92 u93 u94 u95 u96 u97 u98 u99 u100 u101 u102 u103 y36 y37 y38 y39 y40 y41 y42 y43 y44 y45 y46 y47 y48 y49 y50 y51 y52 y53 y54 y55 y56 y57 : Value) (Q0 : Exit → Act → World → Prop)
    (hQ0 : ∀ (x36 x37 x38 x39 x40 x41 x42 x43 x44 x45 x46 x47 x48 x49 x50 x51 x52 x53 x54 x55 x56 : Value) (X : World), Below wr.drew.heap.size wr.drew X → Q0 .normal ({ tmps := #[u0, .pointer (some ⟨P, 0, none⟩), u2, .pointer (some ⟨P3, 0, none⟩), .int .i64 0, u5, u6, u7, u8, u9, u10, u11, u12, u13, u14, u15, u16, u17, u18, u19, u20, u21, u22, u23, u24, u25, u26, u27, u28, u29, u30, u31, u32, u33, u34, u35, x36, x37, x38, x39, x40, x41, x42, x43, x44, x45, x46, x47, x48, x49, x50, x51, x52, x53, x54, x55, x56, .bool false, u58, u59, u60, u61, u62, u63, u64, u65, u66, u67, u68, u69, u70, u71, u72, u73, u74, u75, u76, u77, u78, u79, u80, u81, u82, u83, u84, u85, u86, u87, u88, u89, u90, u91, u92, u93, u94, u95, u96, u97, u98, u99, u100, u101, u102, u103], defers := [] }) X) :
    Code.wp Tryz.prog reg3r Q0 ({ tmps := #[u0, .pointer (some ⟨P, 0, none⟩), u2, .pointer (some ⟨P3, 0, none⟩), .int .i64 0, u5, u6, u7, u8, u9, u10, u11, u12, u13, u14, u15, u16, u17, u18, u19, u20, u21, u22, u23, u24, u25, u26, u27, u28, u29, u30, u31, u32, u33, u34, u35, y36, y37, y38, y39, y40, y41, y42, y43, y44, y45, y46, y47, y48, y49, y50, y51, y52, y53, y54, y55, y56, y57, u58, u59, u60, u61, u62, u63, u64, u65, u66, u67, u68, u69, u70, u71, u72, u73, u74, u75, u76, u77, u78, u79, u80, u81, u82, u83, u84, u85, u86, u87, u88, u89, u90, u91, u92, u93, u94, u95, u96, u97, u98, u99, u100, u101, u102, u103], defers := [] }) wr := by
  conv => arg 2; whnf
  obtain ⟨W0, hW0⟩ : ∃ W0, wr.drew = W0 := ⟨_, rfl⟩
  rw [hW0] at hF0 D40 D90 D110 hQ0
  have hF := hF0
  have D4 := D40
  have D9 := D90
  have D11 := D110
  have hW' := Below.refl W0.heap.size W0
  have hmx : Tryz.prog.follows .mixedOrders = true := by kernel_rfl
  replace hQ0 := Lib.hid hQ0
  refine wp_region_noPanic ?_
  refine wp_region_held (S := fun Z => Below W0.heap.size W0 Z) hmx ?_
  try dsimp only [List.append]
  change wpAnyH _ _ _ _ _ _ _ _ wr.drew
  rw [hW0]
  generalize hops : (List.toArray _ : Array Oper) = ops
  generalize hQQ : NoPanic _ = QQ
  have hQp : ∀ (d : Option Tmp) (v : Value) (c : _) (a : Act) (w : World), QQ (.panic c) (a.put d v) w → QQ (.panic c) a w := by rw [← hQQ]; intro d v c a w h; exact h
  have hNS : Region.noSelect ops = true := by rw [← hops]; kernel_rfl
  obtain ⟨oo, hop0⟩ : ∃ o, ops[0]? = some o := ⟨_, by rw [← hops]; rfl⟩
  have hv := hop0
  rw [← hops] at hv
  simp only [List.getElem?_toArray, List.getElem?_cons_succ, List.getElem?_cons_zero, Option.some.injEq] at hv
  subst hv
  obtain ⟨oo, hop1⟩ : ∃ o, ops[1]? = some o := ⟨_, by rw [← hops]; rfl⟩
  have hv := hop1
  rw [← hops] at hv
  simp only [List.getElem?_toArray, List.getElem?_cons_succ, List.getElem?_cons_zero, Option.some.injEq] at hv
  subst hv
  obtain ⟨oo, hop2⟩ : ∃ o, ops[2]? = some o := ⟨_, by rw [← hops]; rfl⟩
  have hv := hop2
  rw [← hops] at hv
  simp only [List.getElem?_toArray, List.getElem?_cons_succ, List.getElem?_cons_zero, Option.some.injEq] at hv
  subst hv
  obtain ⟨oo, hop3⟩ : ∃ o, ops[3]? = some o := ⟨_, by rw [← hops]; rfl⟩
  have hv := hop3
  rw [← hops] at hv
  simp only [List.getElem?_toArray, List.getElem?_cons_succ, List.getElem?_cons_zero, Option.some.injEq] at hv
  subst hv
  obtain ⟨oo, hop4⟩ : ∃ o, ops[4]? = some o := ⟨_, by rw [← hops]; rfl⟩
  have hv := hop4
  rw [← hops] at hv
  simp only [List.getElem?_toArray, List.getElem?_cons_succ, List.getElem?_cons_zero, Option.some.injEq] at hv
  subst hv
  obtain ⟨oo, hop5⟩ : ∃ o, ops[5]? = some o := ⟨_, by rw [← hops]; rfl⟩
  have hv := hop5
  rw [← hops] at hv
  simp only [List.getElem?_toArray, List.getElem?_cons_succ, List.getElem?_cons_zero, Option.some.injEq] at hv
  subst hv
  obtain ⟨oo, hop6⟩ : ∃ o, ops[6]? = some o := ⟨_, by rw [← hops]; rfl⟩
  have hv := hop6
  rw [← hops] at hv
  simp only [List.getElem?_toArray, List.getElem?_cons_succ, List.getElem?_cons_zero, Option.some.injEq] at hv
  subst hv
  obtain ⟨oo, hop7⟩ : ∃ o, ops[7]? = some o := ⟨_, by rw [← hops]; rfl⟩
  have hv := hop7
  rw [← hops] at hv
  simp only [List.getElem?_toArray, List.getElem?_cons_succ, List.getElem?_cons_zero, Option.some.injEq] at hv
  subst hv
  obtain ⟨oo, hop8⟩ : ∃ o, ops[8]? = some o := ⟨_, by rw [← hops]; rfl⟩
  have hv := hop8
  rw [← hops] at hv
  simp only [List.getElem?_toArray, List.getElem?_cons_succ, List.getElem?_cons_zero, Option.some.injEq] at hv
  subst hv
  obtain ⟨oo, hop9⟩ : ∃ o, ops[9]? = some o := ⟨_, by rw [← hops]; rfl⟩
  have hv := hop9
  rw [← hops] at hv
  simp only [List.getElem?_toArray, List.getElem?_cons_succ, List.getElem?_cons_zero, Option.some.injEq] at hv
  subst hv
  obtain ⟨oo, hop10⟩ : ∃ o, ops[10]? = some o := ⟨_, by rw [← hops]; rfl⟩
  have hv := hop10
  rw [← hops] at hv
  simp only [List.getElem?_toArray, List.getElem?_cons_succ, List.getElem?_cons_zero, Option.some.injEq] at hv
  subst hv
  obtain ⟨oo, hop11⟩ : ∃ o, ops[11]? = some o := ⟨_, by rw [← hops]; rfl⟩
  have hv := hop11
  rw [← hops] at hv
  simp only [List.getElem?_toArray, List.getElem?_cons_succ, List.getElem?_cons_zero, Option.some.injEq] at hv
  subst hv
  obtain ⟨oo, hop12⟩ : ∃ o, ops[12]? = some o := ⟨_, by rw [← hops]; rfl⟩
  have hv := hop12
  rw [← hops] at hv
  simp only [List.getElem?_toArray, List.getElem?_cons_succ, List.getElem?_cons_zero, Option.some.injEq] at hv
  subst hv
  obtain ⟨oo, hop13⟩ : ∃ o, ops[13]? = some o := ⟨_, by rw [← hops]; rfl⟩
  have hv := hop13
  rw [← hops] at hv
  simp only [List.getElem?_toArray, List.getElem?_cons_succ, List.getElem?_cons_zero, Option.some.injEq] at hv
  subst hv
  obtain ⟨oo, hop14⟩ : ∃ o, ops[14]? = some o := ⟨_, by rw [← hops]; rfl⟩
  have hv := hop14
  rw [← hops] at hv
  simp only [List.getElem?_toArray, List.getElem?_cons_succ, List.getElem?_cons_zero, Option.some.injEq] at hv
  subst hv
  obtain ⟨oo, hop15⟩ : ∃ o, ops[15]? = some o := ⟨_, by rw [← hops]; rfl⟩
  have hv := hop15
  rw [← hops] at hv
  simp only [List.getElem?_toArray, List.getElem?_cons_succ, List.getElem?_cons_zero, Option.some.injEq] at hv
  subst hv
  obtain ⟨oo, hop16⟩ : ∃ o, ops[16]? = some o := ⟨_, by rw [← hops]; rfl⟩
  have hv := hop16
  rw [← hops] at hv
  simp only [List.getElem?_toArray, List.getElem?_cons_succ, List.getElem?_cons_zero, Option.some.injEq] at hv
  subst hv
  obtain ⟨oo, hop17⟩ : ∃ o, ops[17]? = some o := ⟨_, by rw [← hops]; rfl⟩
  have hv := hop17
  rw [← hops] at hv
  simp only [List.getElem?_toArray, List.getElem?_cons_succ, List.getElem?_cons_zero, Option.some.injEq] at hv
  subst hv
  obtain ⟨oo, hop18⟩ : ∃ o, ops[18]? = some o := ⟨_, by rw [← hops]; rfl⟩
  have hv := hop18
  rw [← hops] at hv
  simp only [List.getElem?_toArray, List.getElem?_cons_succ, List.getElem?_cons_zero, Option.some.injEq] at hv
  subst hv
  obtain ⟨oo, hop19⟩ : ∃ o, ops[19]? = some o := ⟨_, by rw [← hops]; rfl⟩
  have hv := hop19
  rw [← hops] at hv
  simp only [List.getElem?_toArray, List.getElem?_cons_succ, List.getElem?_cons_zero, Option.some.injEq] at hv
  subst hv
  obtain ⟨oo, hop20⟩ : ∃ o, ops[20]? = some o := ⟨_, by rw [← hops]; rfl⟩
  have hv := hop20
  rw [← hops] at hv
  simp only [List.getElem?_toArray, List.getElem?_cons_succ, List.getElem?_cons_zero, Option.some.injEq] at hv
  subst hv
  obtain ⟨oo, hop21⟩ : ∃ o, ops[21]? = some o := ⟨_, by rw [← hops]; rfl⟩
  have hv := hop21
  rw [← hops] at hv
  simp only [List.getElem?_toArray, List.getElem?_cons_succ, List.getElem?_cons_zero, Option.some.injEq] at hv
  subst hv
  have H12 : ∀ (s36 s37 s38 s39 s40 s41 s42 s44 s46 s48 s49 s50 s51 s52 s53 s54 s55 s56 s57 : Value) (v45 : Value) (v47 : Value) (X : World), Below W0.heap.size W0 X → RowsAt X v45 R → RowsAt X v47 R → wpAnyH Tryz.prog .any ops QQ (fun Z => Below W0.heap.size W0 Z) 10 (fsH 22 12 []) ({ tmps := #[u0, .pointer (some ⟨P, 0, none⟩), u2, .pointer (some ⟨P3, 0, none⟩), .int .i64 0, u5, u6, u7, u8, u9, u10, u11, u12, u13, u14, u15, u16, u17, u18, u19, u20, u21, u22, u23, u24, u25, u26, u27, u28, u29, u30, u31, u32, u33, u34, u35, s36, s37, s38, s39, s40, s41, s42, .bool false, s44, v45, s46, v47, s48, s49, s50, s51, s52, s53, s54, s55, s56, s57, u58, u59, u60, u61, u62, u63, u64, u65, u66, u67, u68, u69, u70, u71, u72, u73, u74, u75, u76, u77, u78, u79, u80, u81, u82, u83, u84, u85, u86, u87, u88, u89, u90, u91, u92, u93, u94, u95, u96, u97, u98, u99, u100, u101, u102, u103], defers := [] }) X := by
    as_aux_lemma =>
    intro s36 s37 s38 s39 s40 s41 s42 s44 s46 s48 s49 s50 s51 s52 s53 s54 s55 s56 s57 v45 v47 X hW' f45 f47
    refine wpAnyH_all (rs := [12]) (by rw [← hops]; kernel_rfl) (by simp) ?_
    intro ix hix
    simp only [List.mem_cons, List.not_mem_nil, or_false] at hix
    rcases hix with rfl
    · refine held_op hop12 (by rw [← hops]; kernel_rfl) (fun K' hK => ?_)
      go_simp
      refine (D12.out X _ _ f45 f47).mono ?_
      rintro e Y ⟨rfl, hb⟩
      dsimp only
      replace hW' := kept_trans hW' hb
      refine hK _ _ ⟨hW', ?_⟩
      clear hK K'
      (try simp only [Act.put, List.setIfInBounds_toArray, List.set_cons_zero, List.set_cons_succ])
      rw [show (fsH 22 12 []).setIfInBounds 12 true = (fsH 22 13 []) from by kernel_rfl]
      refine wpAnyH_take (i := 13) (v := .bool false) hop13 hNS (by rw [← hops]; kernel_rfl) (by rw [← hops]; kernel_rfl) (hQp _ _) (.inl ⟨(by rw [← hops]; kernel_rfl), fun wz hz => by
          have hW' := hz
          first | (go_simp; done) | (obtain ⟨z0, z1, z2, z3, z4⟩ := hF.out _ hW'; go_simp)⟩) hW' ?_
      (try simp only [Act.put, List.setIfInBounds_toArray, List.set_cons_zero, List.set_cons_succ])
      rw [show (fsH 22 13 []).setIfInBounds 13 true = (fsH 22 14 []) from by kernel_rfl]
      refine wpAnyH_take (i := 14) (v := .bool false) hop14 hNS (by rw [← hops]; kernel_rfl) (by rw [← hops]; kernel_rfl) (hQp _ _) (.inl ⟨(by rfl), fun wz hz => by
          have hW' := hz
          first | (go_simp; done) | (obtain ⟨z0, z1, z2, z3, z4⟩ := hF.out _ hW'; go_simp)⟩) hW' ?_
      (try simp only [Act.put, List.setIfInBounds_toArray, List.set_cons_zero, List.set_cons_succ])
      rw [show (fsH 22 14 []).setIfInBounds 14 true = (fsH 22 15 []) from by kernel_rfl]
      refine wpAnyH_take (i := 15) (v := .bool false) hop15 hNS (by rw [← hops]; kernel_rfl) (by rw [← hops]; kernel_rfl) (hQp _ _) (.inl ⟨(by rfl), fun wz hz => by
          have hW' := hz
          first | (go_simp; done) | (obtain ⟨z0, z1, z2, z3, z4⟩ := hF.out _ hW'; go_simp)⟩) hW' ?_
      (try simp only [Act.put, List.setIfInBounds_toArray, List.set_cons_zero, List.set_cons_succ])
      rw [show (fsH 22 15 []).setIfInBounds 15 true = (fsH 22 16 []) from by kernel_rfl]
      refine wpAnyH_take (i := 16) (v := .pointer (some ⟨P3, 2, none⟩)) hop16 hNS (by rw [← hops]; kernel_rfl) (by rw [← hops]; kernel_rfl) (hQp _ _) (.inl ⟨(by rw [← hops]; kernel_rfl), fun wz hz => by
          have hW' := hz
          first | (go_simp; done) | (obtain ⟨z0, z1, z2, z3, z4⟩ := hF.out _ hW'; go_simp)⟩) hW' ?_
      (try simp only [Act.put, List.setIfInBounds_toArray, List.set_cons_zero, List.set_cons_succ])
      rw [show (fsH 22 16 []).setIfInBounds 16 true = (fsH 22 17 []) from by kernel_rfl]
      refine wpAnyH_take (i := 17) (v := .int .i64 win) hop17 hNS (by rw [← hops]; kernel_rfl) (by rw [← hops]; kernel_rfl) (hQp _ _) (.inl ⟨(by rw [← hops]; kernel_rfl), fun wz hz => by
          have hW' := hz
          first | (go_simp; done) | (obtain ⟨z0, z1, z2, z3, z4⟩ := hF.out _ hW'; go_simp)⟩) hW' ?_
      (try simp only [Act.put, List.setIfInBounds_toArray, List.set_cons_zero, List.set_cons_succ])
      rw [show (fsH 22 17 []).setIfInBounds 17 true = (fsH 22 18 []) from by kernel_rfl]
      refine wpAnyH_take (i := 18) (v := .pointer (some ⟨P, 1, none⟩)) hop18 hNS (by rw [← hops]; kernel_rfl) (by rw [← hops]; kernel_rfl) (hQp _ _) (.inl ⟨(by rw [← hops]; kernel_rfl), fun wz hz => by
          have hW' := hz
          first | (go_simp; done) | (obtain ⟨z0, z1, z2, z3, z4⟩ := hF.out _ hW'; go_simp)⟩) hW' ?_
      (try simp only [Act.put, List.setIfInBounds_toArray, List.set_cons_zero, List.set_cons_succ])
      rw [show (fsH 22 18 []).setIfInBounds 18 true = (fsH 22 19 []) from by kernel_rfl]
      refine wpAnyH_take (i := 19) (v := .int .i64 win) hop19 hNS (by rw [← hops]; kernel_rfl) (by rw [← hops]; kernel_rfl) (hQp _ _) (.inl ⟨(by rw [← hops]; kernel_rfl), fun wz hz => by
          have hW' := hz
          first | (go_simp; done) | (obtain ⟨z0, z1, z2, z3, z4⟩ := hF.out _ hW'; go_simp)⟩) hW' ?_
      (try simp only [Act.put, List.setIfInBounds_toArray, List.set_cons_zero, List.set_cons_succ])
      rw [show (fsH 22 19 []).setIfInBounds 19 true = (fsH 22 20 []) from by kernel_rfl]
      refine wpAnyH_take (i := 20) (v := .bool false) hop20 hNS (by rw [← hops]; kernel_rfl) (by rw [← hops]; kernel_rfl) (hQp _ _) (.inl ⟨(by rw [← hops]; kernel_rfl), fun wz hz => by
          have hW' := hz
          first | (go_simp; done) | (obtain ⟨z0, z1, z2, z3, z4⟩ := hF.out _ hW'; go_simp)⟩) hW' ?_
      (try simp only [Act.put, List.setIfInBounds_toArray, List.set_cons_zero, List.set_cons_succ])
      rw [show (fsH 22 20 []).setIfInBounds 20 true = (fsH 22 21 []) from by kernel_rfl]
      refine wpAnyH_take (i := 21) (v := .bool false) hop21 hNS (by rw [← hops]; kernel_rfl) (by rw [← hops]; kernel_rfl) (hQp _ _) (.inl ⟨(by rfl), fun wz hz => by
          have hW' := hz
          first | (go_simp; done) | (obtain ⟨z0, z1, z2, z3, z4⟩ := hF.out _ hW'; go_simp)⟩) hW' ?_
      (try simp only [Act.put, List.setIfInBounds_toArray, List.set_cons_zero, List.set_cons_succ])
      rw [show (fsH 22 21 []).setIfInBounds 21 true = (fsH 22 22 []) from by kernel_rfl]
      refine wpAnyH_done (by rw [← hops]; kernel_rfl) ?_ _
      rw [← hQQ]
      exact NoPanic.normal (hQ0.out _ _ _ _ _ _ _ _ _ _ _ _ _ _ _ _ _ _ _ _ _ _ hW')
  have H11 : ∀ (s36 s37 s38 s39 s40 s41 s42 s44 s47 s48 s49 s50 s51 s52 s53 s54 s55 s56 s57 : Value) (v45 : Value) (X : World), Below W0.heap.size W0 X → RowsAt X v45 R → wpAnyH Tryz.prog .any ops QQ (fun Z => Below W0.heap.size W0 Z) 11 (fsH 22 11 []) ({ tmps := #[u0, .pointer (some ⟨P, 0, none⟩), u2, .pointer (some ⟨P3, 0, none⟩), .int .i64 0, u5, u6, u7, u8, u9, u10, u11, u12, u13, u14, u15, u16, u17, u18, u19, u20, u21, u22, u23, u24, u25, u26, u27, u28, u29, u30, u31, u32, u33, u34, u35, s36, s37, s38, s39, s40, s41, s42, .bool false, s44, v45, ptV (.slice a n c) win, s47, s48, s49, s50, s51, s52, s53, s54, s55, s56, s57, u58, u59, u60, u61, u62, u63, u64, u65, u66, u67, u68, u69, u70, u71, u72, u73, u74, u75, u76, u77, u78, u79, u80, u81, u82, u83, u84, u85, u86, u87, u88, u89, u90, u91, u92, u93, u94, u95, u96, u97, u98, u99, u100, u101, u102, u103], defers := [] }) X := by
    as_aux_lemma =>
    intro s36 s37 s38 s39 s40 s41 s42 s44 s47 s48 s49 s50 s51 s52 s53 s54 s55 s56 s57 v45 X hW' f45
    refine wpAnyH_all (rs := [11]) (by rw [← hops]; kernel_rfl) (by simp) ?_
    intro ix hix
    simp only [List.mem_cons, List.not_mem_nil, or_false] at hix
    rcases hix with rfl
    · refine held_op hop11 (by rw [← hops]; kernel_rfl) (fun K' hK => ?_)
      go_simp
      refine (D11.out X hW').mono ?_
      rintro e Y ⟨v47, rfl, f47, hb⟩
      dsimp only
      replace f45 := f45.later hb
      replace hW' := kept_trans hW' hb
      refine hK _ _ ⟨hW', ?_⟩
      clear hK K'
      (try simp only [Act.put, List.setIfInBounds_toArray, List.set_cons_zero, List.set_cons_succ])
      rw [show (fsH 22 11 []).setIfInBounds 11 true = (fsH 22 12 []) from by kernel_rfl]
      exact H12 _ _ _ _ _ _ _ _ _ _ _ _ _ _ _ _ _ _ _ _ _ _ hW' f45 f47
  have H9_10 : ∀ (s36 s37 s38 s39 s40 s41 s42 s45 s47 s48 s49 s50 s51 s52 s53 s54 s55 s56 s57 : Value) (X : World), Below W0.heap.size W0 X → wpAnyH Tryz.prog .any ops QQ (fun Z => Below W0.heap.size W0 Z) 12 (fsH 22 9 [10]) ({ tmps := #[u0, .pointer (some ⟨P, 0, none⟩), u2, .pointer (some ⟨P3, 0, none⟩), .int .i64 0, u5, u6, u7, u8, u9, u10, u11, u12, u13, u14, u15, u16, u17, u18, u19, u20, u21, u22, u23, u24, u25, u26, u27, u28, u29, u30, u31, u32, u33, u34, u35, s36, s37, s38, s39, s40, s41, s42, .bool false, auV (.slice a1 n1 c1) (.slice aa na ca) win, s45, ptV (.slice a n c) win, s47, s48, s49, s50, s51, s52, s53, s54, s55, s56, s57, u58, u59, u60, u61, u62, u63, u64, u65, u66, u67, u68, u69, u70, u71, u72, u73, u74, u75, u76, u77, u78, u79, u80, u81, u82, u83, u84, u85, u86, u87, u88, u89, u90, u91, u92, u93, u94, u95, u96, u97, u98, u99, u100, u101, u102, u103], defers := [] }) X := by
    as_aux_lemma =>
    intro s36 s37 s38 s39 s40 s41 s42 s45 s47 s48 s49 s50 s51 s52 s53 s54 s55 s56 s57 X hW'
    refine wpAnyH_all (rs := [9]) (by rw [← hops]; kernel_rfl) (by simp) ?_
    intro ix hix
    simp only [List.mem_cons, List.not_mem_nil, or_false] at hix
    rcases hix with rfl
    · refine held_op hop9 (by rw [← hops]; kernel_rfl) (fun K' hK => ?_)
      go_simp
      refine (D9.out X hW').mono ?_
      rintro e Y ⟨v45, rfl, f45, hb⟩
      dsimp only
      replace hW' := kept_trans hW' hb
      refine hK _ _ ⟨hW', ?_⟩
      clear hK K'
      (try simp only [Act.put, List.setIfInBounds_toArray, List.set_cons_zero, List.set_cons_succ])
      rw [show (fsH 22 9 [10]).setIfInBounds 9 true = (fsH 22 11 []) from by kernel_rfl]
      exact H11 _ _ _ _ _ _ _ _ _ _ _ _ _ _ _ _ _ _ _ _ _ hW' f45
  have H4 : ∀ (s36 s37 s40 s41 s42 s43 s44 s45 s46 s47 s48 s49 s50 s51 s52 s53 s54 s55 s56 s57 : Value) (X : World), Below W0.heap.size W0 X → wpAnyH Tryz.prog .any ops QQ (fun Z => Below W0.heap.size W0 Z) 18 (fsH 22 4 []) ({ tmps := #[u0, .pointer (some ⟨P, 0, none⟩), u2, .pointer (some ⟨P3, 0, none⟩), .int .i64 0, u5, u6, u7, u8, u9, u10, u11, u12, u13, u14, u15, u16, u17, u18, u19, u20, u21, u22, u23, u24, u25, u26, u27, u28, u29, u30, u31, u32, u33, u34, u35, s36, s37, .bool false, auV (.slice a1 n1 c1) (.slice aa na ca) win, s40, s41, s42, s43, s44, s45, s46, s47, s48, s49, s50, s51, s52, s53, s54, s55, s56, s57, u58, u59, u60, u61, u62, u63, u64, u65, u66, u67, u68, u69, u70, u71, u72, u73, u74, u75, u76, u77, u78, u79, u80, u81, u82, u83, u84, u85, u86, u87, u88, u89, u90, u91, u92, u93, u94, u95, u96, u97, u98, u99, u100, u101, u102, u103], defers := [] }) X := by
    as_aux_lemma =>
    intro s36 s37 s40 s41 s42 s43 s44 s45 s46 s47 s48 s49 s50 s51 s52 s53 s54 s55 s56 s57 X hW'
    refine wpAnyH_all (rs := [4]) (by rw [← hops]; kernel_rfl) (by simp) ?_
    intro ix hix
    simp only [List.mem_cons, List.not_mem_nil, or_false] at hix
    rcases hix with rfl
    · refine held_op hop4 (by rw [← hops]; kernel_rfl) (fun K' hK => ?_)
      go_simp
      refine (D4.out X hW').mono ?_
      rintro e Y ⟨rfl, hb⟩
      dsimp only
      replace hW' := kept_trans hW' hb
      refine hK _ _ ⟨hW', ?_⟩
      clear hK K'
      (try simp only [Act.put, List.setIfInBounds_toArray, List.set_cons_zero, List.set_cons_succ])
      rw [show (fsH 22 4 []).setIfInBounds 4 true = (fsH 22 5 []) from by kernel_rfl]
      refine wpAnyH_take (i := 5) (v := .bool false) hop5 hNS (by rw [← hops]; kernel_rfl) (by rw [← hops]; kernel_rfl) (hQp _ _) (.inl ⟨(by rw [← hops]; kernel_rfl), fun wz hz => by
          have hW' := hz
          first | (go_simp; done) | (obtain ⟨z0, z1, z2, z3, z4⟩ := hF.out _ hW'; go_simp)⟩) hW' ?_
      (try simp only [Act.put, List.setIfInBounds_toArray, List.set_cons_zero, List.set_cons_succ])
      rw [show (fsH 22 5 []).setIfInBounds 5 true = (fsH 22 6 []) from by kernel_rfl]
      refine wpAnyH_take (i := 6) (v := .bool false) hop6 hNS (by rw [← hops]; kernel_rfl) (by rw [← hops]; kernel_rfl) (hQp _ _) (.inl ⟨(by rfl), fun wz hz => by
          have hW' := hz
          first | (go_simp; done) | (obtain ⟨z0, z1, z2, z3, z4⟩ := hF.out _ hW'; go_simp)⟩) hW' ?_
      (try simp only [Act.put, List.setIfInBounds_toArray, List.set_cons_zero, List.set_cons_succ])
      rw [show (fsH 22 6 []).setIfInBounds 6 true = (fsH 22 7 []) from by kernel_rfl]
      refine wpAnyH_take (i := 7) (v := .bool false) hop7 hNS (by rw [← hops]; kernel_rfl) (by rw [← hops]; kernel_rfl) (hQp _ _) (.inl ⟨(by rfl), fun wz hz => by
          have hW' := hz
          first | (go_simp; done) | (obtain ⟨z0, z1, z2, z3, z4⟩ := hF.out _ hW'; go_simp)⟩) hW' ?_
      (try simp only [Act.put, List.setIfInBounds_toArray, List.set_cons_zero, List.set_cons_succ])
      rw [show (fsH 22 7 []).setIfInBounds 7 true = (fsH 22 8 []) from by kernel_rfl]
      refine wpAnyH_take (i := 8) (v := auV (.slice a1 n1 c1) (.slice aa na ca) win) hop8 hNS (by rw [← hops]; kernel_rfl) (by rw [← hops]; kernel_rfl) (hQp _ _) (.inl ⟨(by rw [← hops]; kernel_rfl), fun wz hz => by
          have hW' := hz
          first | (go_simp; done) | (obtain ⟨z0, z1, z2, z3, z4⟩ := hF.out _ hW'; go_simp)⟩) hW' ?_
      (try simp only [Act.put, List.setIfInBounds_toArray, List.set_cons_zero, List.set_cons_succ])
      rw [show (fsH 22 8 []).setIfInBounds 8 true = (fsH 22 9 []) from by kernel_rfl]
      refine wpAnyH_take (i := 10) (v := ptV (.slice a n c) win) hop10 hNS (by rw [← hops]; kernel_rfl) (by rw [← hops]; kernel_rfl) (hQp _ _) (.inl ⟨(by rw [← hops]; kernel_rfl), fun wz hz => by
          have hW' := hz
          first | (go_simp; done) | (obtain ⟨z0, z1, z2, z3, z4⟩ := hF.out _ hW'; go_simp)⟩) hW' ?_
      (try simp only [Act.put, List.setIfInBounds_toArray, List.set_cons_zero, List.set_cons_succ])
      rw [show (fsH 22 9 []).setIfInBounds 10 true = (fsH 22 9 [10]) from by kernel_rfl]
      exact H9_10 _ _ _ _ _ _ _ _ _ _ _ _ _ _ _ _ _ _ _ _ hW' 
  have hsz : ops.size = 22 := by rw [← hops]; rfl
  rw [hsz]
  rw [show Array.replicate 22 false = (fsH 22 0 []) from by rfl]
  refine wpAnyH_take (i := 0) (v := .int .i64 0) hop0 hNS (by rw [← hops]; kernel_rfl) (by rw [← hops]; kernel_rfl) (hQp _ _) (.inl ⟨(by rfl), fun wz hz => by
      have hW' := hz
      first | (go_simp; done) | (obtain ⟨z0, z1, z2, z3, z4⟩ := hF.out _ hW'; go_simp)⟩) hW' ?_
  (try simp only [Act.put, List.setIfInBounds_toArray, List.set_cons_zero, List.set_cons_succ])
  rw [show (fsH 22 0 []).setIfInBounds 0 true = (fsH 22 1 []) from by kernel_rfl]
  refine wpAnyH_take (i := 1) (v := .bool false) hop1 hNS (by rw [← hops]; kernel_rfl) (by rw [← hops]; kernel_rfl) (hQp _ _) (.inl ⟨(by rfl), fun wz hz => by
      have hW' := hz
      first | (go_simp; done) | (obtain ⟨z0, z1, z2, z3, z4⟩ := hF.out _ hW'; go_simp)⟩) hW' ?_
  (try simp only [Act.put, List.setIfInBounds_toArray, List.set_cons_zero, List.set_cons_succ])
  rw [show (fsH 22 1 []).setIfInBounds 1 true = (fsH 22 2 []) from by kernel_rfl]
  refine wpAnyH_take (i := 2) (v := .bool false) hop2 hNS (by rw [← hops]; kernel_rfl) (by rw [← hops]; kernel_rfl) (hQp _ _) (.inl ⟨(by rfl), fun wz hz => by
      have hW' := hz
      first | (go_simp; done) | (obtain ⟨z0, z1, z2, z3, z4⟩ := hF.out _ hW'; go_simp)⟩) hW' ?_
  (try simp only [Act.put, List.setIfInBounds_toArray, List.set_cons_zero, List.set_cons_succ])
  rw [show (fsH 22 2 []).setIfInBounds 2 true = (fsH 22 3 []) from by kernel_rfl]
  refine wpAnyH_take (i := 3) (v := auV (.slice a1 n1 c1) (.slice aa na ca) win) hop3 hNS (by rw [← hops]; kernel_rfl) (by rw [← hops]; kernel_rfl) (hQp _ _) (.inl ⟨(by rw [← hops]; kernel_rfl), fun wz hz => by
      have hW' := hz
      first | (go_simp; done) | (obtain ⟨z0, z1, z2, z3, z4⟩ := hF.out _ hW'; go_simp)⟩) hW' ?_
  (try simp only [Act.put, List.setIfInBounds_toArray, List.set_cons_zero, List.set_cons_succ])
  rw [show (fsH 22 3 []).setIfInBounds 3 true = (fsH 22 4 []) from by kernel_rfl]
  exact H4 _ _ _ _ _ _ _ _ _ _ _ _ _ _ _ _ _ _ _ _ _ hW' 
end Go.Proofs.YtccmnngeibpcmaaGreat.Tree
/- NfaRows' walk. -/
namespace Go.Proofs.YtccmnngeibpcmaaGreat.Tree
open Go.ChangeShapes Go.WideShapes Go.ChangeAt Go.RowKit
set_option linter.unusedVariables false
set_option linter.unusedSimpArgs false
set_option maxRecDepth 100000
attribute [local go_sem] Oper.semAt_some
/-- What the law reads all along: the pattern, the automaton. -/
def RnK (w : World) (v : Value) (win : Int) (P3 : Nat) (sv av : Value) (wn : Int) (Ls : List (St × Value)) (A : List Int) (X : World) : Prop :=
  PtBox w.heap.size v win X ∧ AuBox P3 sv av wn X ∧ StsL X sv Ls ∧ NmsAt X av A ∧ Below w.heap.size w X
theorem RnK.later {w : World} {v : Value} {win : Int} {P3 : Nat} {sv av : Value} {wn : Int} {Ls : List (St × Value)} {A : List Int} {X Y : World} (h : RnK w v win P3 sv av wn Ls A X) (hb : Below X.heap.size X Y) : RnK w v win P3 sv av wn Ls A Y :=
  ⟨h.1.later hb, h.2.1.later hb, h.2.2.1.later hb, h.2.2.2.1.later hb, kept_trans h.2.2.2.2 hb⟩
theorem rowA_of {ss : List St} (h : rightA ss = true) {i : Nat} (hi : i < ss.length) : rowA ss i = wayL ss i := by
  unfold rowA
  rw [if_pos ⟨by omega, by omega, h⟩, Int.toNat_natCast]
theorem way_at {ss : List St} (h : rightA ss = true) {i : Nat} (hi : i < ss.length) : ∃ q : Nat, (wayL ss i).length = q + 1 ∧ (stA ss i).place = q ∧ (wayL ss i)[q]? = some (stA ss i).step := by
  have h1 := wayL_eq h hi
  have h2 := (wayL_len h i hi).1
  refine ⟨(wayL ss i).length - 1, ?_, ?_, ?_⟩
  · rw [h1]; simp
  · rw [h1] at h2 ⊢; simp at h2 ⊢; omega
  · rw [h1]; simp
set_option maxHeartbeats 1000000 in
theorem rowsGreat (v : Value) (L : List (Sp × Value)) (win : Int) (w : World) (h : SpsL w v L) (hl : L.length ≤ maxLen) (hg : great (L.map (·.1)) = true) :
    Calls Tryz.prog 3 #[ptV v win] w fun e w' => e = .returned (.bool true) ∧ Below w.heap.size w w' := by
  have hb := kept_new w (.cells #[v, .int .i64 win] 24)
  have hG := great_W win _ hl (h.later hb)
  have hp := PtBox.new w v win
  have c0 := hp.c0
  have c1 := hp.c1
  rw [hg] at hG
  obtain ⟨a, c, rfl⟩ := h.lit rfl
  generalize hn : L.length = n at *
  replace hG := Lib.hid hG
  replace hb := Lib.hid hb
  clear hp h hl hn hg
  go_enter Tryz.func3, Tryz.ntmps3
  go_wp2_with (first
    | ((with_reducible refine hG.out.mono ?_); rintro e w2 ⟨rfl, hb2⟩)
    | ((with_reducible refine (wakes_any _).mono ?_); rintro e w3 ⟨rfl, hb3⟩))
  go_ret
  exact ⟨rfl, kept_trans hb.out (kept_trans hb2 hb3)⟩
set_option maxHeartbeats 2000000 in
theorem rowsBad (v : Value) (L : List (Sp × Value)) (win : Int) (w : World) (h : SpsL w v L) (hl : L.length ≤ maxLen) (hq : ∀ x ∈ L, InSp w x) (hg : great (L.map (·.1)) = false) (hm : mayB (L.map (·.1)) win = false) :
    Calls Tryz.prog 3 #[ptV v win] w fun e w' => e = .returned (.bool true) ∧ Below w.heap.size w w' := by
  have hb := kept_new w (.cells #[v, .int .i64 win] 24)
  have hG := great_W win _ hl (h.later hb)
  have hp := PtBox.new w v win
  have c0 := hp.c0
  have c1 := hp.c1
  have hok := unOk_of hg hq
  have hNw := Lib.hid (fun X (hX : Below w.heap.size w X) => new_V win hok X (h.later hX))
  have hMr := Lib.hid (fun X (hX : Below w.heap.size w X) => may_R win hg X (h.later hX))
  rw [hg] at hG
  rw [hm] at hMr
  obtain ⟨a, c, rfl⟩ := h.lit rfl
  generalize hn : L.length = n at *
  replace hG := Lib.hid hG
  replace hb := Lib.hid hb
  replace hp := Lib.hid hp
  replace hm := Lib.hid hm
  clear h hl hn hg hok hq
  go_enter Tryz.func3, Tryz.ntmps3
  go_wp2_with (first
    | ((with_reducible refine hG.out.mono ?_); rintro e w2 ⟨rfl, hb2⟩; have hp2 := Lib.hid (hp.out.later hb2); have hB2 := Lib.hid (kept_trans hb.out hb2); have d0 := hp2.out.c0; have d1 := hp2.out.c1; have Q1 := Lib.hid (hNw.out _ hB2.out); replace hb2 := True.intro; clear hb2)
    | ((with_reducible refine Q1.out.mono ?_); rintro e w3 ⟨sv, av, wn, Ls, er, rfl, hS, ⟨A, hA, -, hX⟩, hb3⟩; obtain ⟨rfl, rfl, rfl, rfl⟩ := hX hm.out; obtain ⟨a1, c1', rfl⟩ := hS.lit (n := 0) rfl; obtain ⟨aa, ca, eav, hcA⟩ := id hA; have eav2 : av = .slice aa 0 ca := eav; subst eav2; have hk3 := kept_new w3 (.cells #[.slice a1 0 c1', .slice aa 0 ca, .int .i64 0] 30); have hB3 := Lib.hid (kept_trans hB2.out (kept_trans hb3 hk3)); have hp3 := Lib.hid (hp2.out.later (kept_trans hb3 hk3)); have hA3 := Lib.hid (AuBox.new w3 (.slice a1 0 c1') (.slice aa 0 ca) 0); have hS3 := Lib.hid (hS.later hk3); have e0 := hp3.out.c0; have e1 := hp3.out.c1; have Q2 := Lib.hid (hMr.out _ hB3.out); clear hk3 hS hA hcA hb3 hX eav)
    | ((with_reducible refine Q2.out.mono ?_); rintro e w4 ⟨rfl, hb4⟩; have hA4 := Lib.hid (hA3.out.later hb4); have f0 := hA4.out.c0; have f1 := hA4.out.c1; have f2 := hA4.out.c2; have hB4 := Lib.hid (kept_trans hB3.out hb4); have Q3 := Lib.hid (rowsA_V (av := .slice aa 0 ca) 0 (by simp) (by simp) w4 (hS3.out.later hb4) ⟨_, _, _, rfl⟩); replace hb4 := True.intro; clear hb4)
    | ((with_reducible refine Q3.out.mono ?_); rintro e w5 ⟨u, rfl, hu, hb5⟩; obtain ⟨ua, uc, eu, -⟩ := hu.at.choose_spec.1; have eu2 : u = .slice ua 0 uc := eu; subst eu2; have hB5 := Lib.hid (kept_trans hB4.out hb5); clear hu eu hb5)
    | ((with_reducible refine (wakes_any _).mono ?_); rintro e w6 ⟨rfl, hb6⟩; have hB6 := Lib.hid (kept_trans hB5.out hb6)))
  go_ret
  exact ⟨rfl, hB6.out⟩
set_option maxHeartbeats 8000000 in
theorem rowsMain (v : Value) (L : List (Sp × Value)) (win : Int) (w : World) (h : SpsL w v L) (hl : L.length ≤ maxLen) (hq : ∀ x ∈ L, InSp w x) (hg : great (L.map (·.1)) = false) (hm : mayB (L.map (·.1)) win = true) :
    Calls Tryz.prog 3 #[ptV v win] w fun e w' => e = .returned (.bool true) ∧ Below w.heap.size w w' := by
  have hb := kept_new w (.cells #[v, .int .i64 win] 24)
  have hG := great_W win _ hl (h.later hb)
  have hp := PtBox.new w v win
  have c0 := hp.c0
  have c1 := hp.c1
  have hok := unOk_of hg hq
  have hNw := Lib.hid (fun X (hX : Below w.heap.size w X) => new_V win hok X (h.later hX))
  have hMr := Lib.hid (fun X (hX : Below w.heap.size w X) => may_R win hg X (h.later hX))
  have hRR := Lib.hid (fun X (hX : Below w.heap.size w X) => refRows_R win hg X (h.later hX))
  rw [hg] at hG
  rw [hm] at hMr
  obtain ⟨hT, hrA⟩ := auto_tri hm
  have hrows : rowsR (L.map (·.1)) win = rowsP (L.map (·.1)) := by unfold rowsR; rw [if_pos hm]
  rw [hrows] at hRR
  have hlenA : (autoS (L.map (·.1)) win).length ≤ 324 := by
    have h1 := trieR_len (L.map (·.1)) win (rowsP (L.map (·.1))) (fun q hq => ((rows_fit hm).1 q hq).2.2)
    have h2 := ((may_good hm).rowsK_bd (posS (L.map (·.1)) 0).length).1
    rw [rowsK_all _ (Nat.le_refl _)] at h2
    unfold autoS; omega
  have hR81 : (rowsP (L.map (·.1))).length ≤ 81 ∧ ∀ r ∈ rowsP (L.map (·.1)), r.length ≤ 4 := by
    have h2 := ((may_good hm).rowsK_bd (posS (L.map (·.1)) 0).length).1
    rw [rowsK_all _ (Nat.le_refl _)] at h2
    exact ⟨h2, fun q hq => ((rows_fit hm).1 q hq).2.2⟩
  obtain ⟨a, c, rfl⟩ := h.lit rfl
  generalize hn : L.length = n at *
  obtain ⟨R, hR⟩ : ∃ R, rowsP (L.map (·.1)) = R := ⟨_, rfl⟩
  rw [hR] at hT hrA hRR hR81
  obtain ⟨ps, hps⟩ : ∃ ps, L.map (·.1) = ps := ⟨_, rfl⟩
  rw [hps] at hNw hT hrA hlenA hm
  obtain ⟨au, hau⟩ : ∃ au, autoS ps win = au := ⟨_, rfl⟩
  rw [hau] at hNw hT hrA hlenA
  have hright := hT.right
  have hways := hT.ways
  have hpl : ∀ s ∈ au, -1000000 ≤ s.place ∧ s.place ≤ 1000000 := fun s hs => by
    obtain ⟨i, hi⟩ := List.getElem?_of_mem hs
    have hil := (List.getElem?_eq_some_iff.1 hi).1
    have := (wayL_len hright i hil).2
    rw [stA_of hi] at this
    omega
  have hstep6 : ∀ i, i < au.length → 0 ≤ (stA au i).step ∧ (stA au i).step < 6 := fun i hi => ⟨(rightA_at hright hi).1, (rightA_at hright hi).2.1⟩
  replace hG := Lib.hid hG
  replace hb := Lib.hid hb
  replace hp := Lib.hid hp
  replace hm := Lib.hid hm
  replace hways := Lib.hid hways
  replace hright := Lib.hid hright
  replace hrA := Lib.hid hrA
  replace hpl := Lib.hid hpl
  replace hR81 := Lib.hid hR81
  replace hstep6 := Lib.hid hstep6
  clear h hl hn hg hok hq hT hrows hR hps hau
  go_enter Tryz.func3, Tryz.ntmps3
  go_upto_region 6 with (first
    | ((with_reducible refine hG.out.mono ?_); rintro e w2 ⟨rfl, hb2⟩; have hp2 := Lib.hid (hp.out.later hb2); have hB2 := Lib.hid (kept_trans hb.out hb2); have d0 := hp2.out.c0; have d1 := hp2.out.c1; have Q1 := Lib.hid (hNw.out _ hB2.out); replace hb2 := True.intro; clear hb2)
    | ((with_reducible refine Q1.out.mono ?_); rintro e w3 ⟨sv, av, wn, Ls, er, rfl, hS, ⟨A, hA, hX, -⟩, hb3⟩; obtain ⟨hLs, -, rfl, rfl⟩ := hX hm.out; obtain ⟨a1, c1', rfl⟩ := hS.lit rfl; obtain ⟨aa, ca, eav, hcA⟩ := id hA; subst eav; have hk3 := kept_new w3 (.cells #[.slice a1 Ls.length c1', .slice aa A.length ca, .int .i64 wn] 30); have hK3 : Hid (RnK w (.slice a n c) wn w3.heap.size (.slice a1 Ls.length c1') (.slice aa A.length ca) wn Ls A (w3.alloc (.cells #[.slice a1 Ls.length c1', .slice aa A.length ca, .int .i64 wn] 30))) := Lib.hid ⟨hp2.out.later (kept_trans hb3 hk3), AuBox.new w3 (.slice a1 Ls.length c1') (.slice aa A.length ca) wn, hS.later hk3, hA.later hk3, kept_trans hB2.out (kept_trans hb3 hk3)⟩; have e0 := hK3.out.1.c0; have e1 := hK3.out.1.c1; have Q2 := Lib.hid (hMr.out _ hK3.out.2.2.2.2); clear hk3 hS hA hcA hb3 hX)
    | ((with_reducible refine Q2.out.mono ?_); rintro e w4 ⟨rfl, hb4⟩; have hK4 := Lib.hid (hK3.out.later hb4); replace hb4 := True.intro; clear hb4))
  obtain ⟨P3, hP3⟩ : ∃ P3, w3.heap.size = P3 := ⟨_, rfl⟩
  rw [hP3] at hK4 hK3 ⊢
  clear c0 c1 d0 d1 e0 e1 Q1 Q2 hK3 hG hp2 hB2 hb hp hNw hMr
  obtain ⟨na, hna⟩ : ∃ na, A.length = na := ⟨_, rfl⟩
  obtain ⟨nl, hnl⟩ : ∃ nl, Ls.length = nl := ⟨_, rfl⟩
  have hnau : au.length = nl := by rw [← hLs, List.length_map, hnl]
  rw [hna, hnl] at hK4 ⊢
  have hnl4 : nl ≤ 324 := by omega
  replace hLs := Lib.hid hLs
  have hK5 : Hid (∀ X, Below w4.drew.heap.size w4.drew X → RnK w (.slice a n c) wn P3 (.slice a1 nl c1') (.slice aa na ca) wn Ls A X) := Lib.hid fun X hX => hK4.out.later (kept_trans (below_drew w4) hX)
  have hpl2 : Hid (∀ s ∈ Ls.map (·.1), -1000000 ≤ s.place ∧ s.place ≤ 1000000) := Lib.hid (by rw [hLs.out]; exact hpl.out)
  have hl2 : Ls.length ≤ 1000000 := by omega
  have hF : Hid (∀ X, Below w4.drew.heap.size w4.drew X → X.cell? ⟨w.heap.size, 0, none⟩ = some (.slice a n c) ∧ X.cell? ⟨w.heap.size, 1, none⟩ = some (.int .i64 wn) ∧ X.cell? ⟨P3, 0, none⟩ = some (.slice a1 nl c1') ∧ X.cell? ⟨P3, 1, none⟩ = some (.slice aa na ca) ∧ X.cell? ⟨P3, 2, none⟩ = some (.int .i64 wn)) := Lib.hid fun X hX =>
    ⟨(hK5.out X hX).1.c0, (hK5.out X hX).1.c1, (hK5.out X hX).2.1.c0, (hK5.out X hX).2.1.c1, (hK5.out X hX).2.1.c2⟩
  have D4 : Hid (∀ X, Below w4.drew.heap.size w4.drew X → Calls Tryz.prog 10 #[auV (.slice a1 nl c1') (.slice aa na ca) wn] X fun e Y => e = .returned (.bool true) ∧ Below X.heap.size X Y) := Lib.hid fun X hX => by
    have := rightR_V (av := .slice aa na ca) wn hl2 hpl2.out X (hK5.out X hX).2.2.1 ⟨_, _, _, rfl⟩
    rw [hLs.out, hright.out] at this
    exact this
  have D9 : Hid (∀ X, Below w4.drew.heap.size w4.drew X → Calls Tryz.prog 9 #[auV (.slice a1 nl c1') (.slice aa na ca) wn] X fun e Y => ∃ u, e = .returned u ∧ RowsAt Y u R ∧ Below X.heap.size X Y) := Lib.hid fun X hX => by
    have := rowsA_V (av := .slice aa na ca) wn hl2 hpl2.out X (hK5.out X hX).2.2.1 ⟨_, _, _, rfl⟩
    rw [hLs.out, hrA.out] at this
    refine this.mono ?_
    rintro e Y ⟨u, g1, g2, g3⟩
    exact ⟨u, g1, g2.at, g3⟩
  have D11 : Hid (∀ X, Below w4.drew.heap.size w4.drew X → Calls Tryz.prog 12 #[ptV (.slice a n c) wn] X fun e Y => ∃ u, e = .returned u ∧ RowsAt Y u R ∧ Below X.heap.size X Y) := Lib.hid fun X hX => by
    refine (hRR.out X (hK5.out X hX).2.2.2.2).mono ?_
    rintro e Y ⟨u, g1, g2, g3⟩
    exact ⟨u, g1, g2.at, g3⟩
  have D12 : Hid (∀ X u v, RowsAt X u R → RowsAt X v R → Calls Tryz.prog 11 #[u, v] X fun e Y => e = .returned (.bool true) ∧ Below X.heap.size X Y) := Lib.hid fun X u v hu hv => by
    have := rowed_any hu hv (by have := hR81.out.1; omega) (fun r hr => by have := hR81.out.2 r hr; omega)
    simpa using this
  refine rows_reg6 w4 hF D4 D9 D11 D12 _ _ _ _ _ _ _ _ _ _ _ _ _ _ _ _ _ _ _ _ _ _ _ _ _ _ _ _ _ _ _ _ _ _ _ _ _ _ _ _ _ _ _ _ _ _ _ _ _ _ _ _ _ _ _ _ _ _ _ _ _ _ _ _ _ _ _ _ _ _ _ _ _ _ _ _ _ _ _ _ _ _ _ _ _ _ _ _ _ _ _ _ _ _ _ _ _ _ _ _ _ _ ?_
  intro x36 x37 x38 x39 x40 x41 x42 x43 x44 x45 x46 x47 x48 x49 x50 x51 x52 x53 x54 x55 x56 X hX
  have hK6 := Lib.hid (hK5.out X hX)
  have hDR : Hid (∀ X (i : Nat), i < nl → RnK w (.slice a n c) wn P3 (.slice a1 nl c1') (.slice aa na ca) wn Ls A X → Calls Tryz.prog 13 #[auV (.slice a1 nl c1') (.slice aa na ca) wn, .int .i64 i] X fun e Y => ∃ u, e = .returned u ∧ NmsAt Y u (wayL au i) ∧ Below X.heap.size X Y) := Lib.hid fun X i hi hX => by
    have := rowA_V (av := .slice aa na ca) wn i hl2 hpl2.out X hX.2.2.1 ⟨_, _, _, rfl⟩
    rw [hLs.out, rowA_of hright.out (by omega)] at this
    refine this.mono ?_
    rintro e Y ⟨u, g1, g2, g3⟩
    exact ⟨u, g1, nms_own g2, g3⟩
  clear hF D4 D9 D11 D12 hRR hX hK5 hK4
  go_wp2_with fail
  clear hP3 hna hrA hpl hR81
  replace hnl := Lib.hid hnl
  replace hnau := Lib.hid hnau
  go_loopw [5] (fun t wr => ∃ i : Nat, i ≤ nl ∧ t = .int .i64 i ∧ Hid (RnK w (.slice a n c) wn P3 (.slice a1 nl c1') (.slice aa na ca) wn Ls A wr)) (fun t _ => nl - (intOf t).toNat)
  case atStart => exact ⟨0, Nat.zero_le _, rfl, hK6⟩
  case round =>
    clear hK6
    obtain ⟨i, hi, rfl, hK⟩ := hrel
    have c0 := hK.out.2.1.c0
    have c1 := hK.out.2.1.c1
    have c2 := hK.out.2.1.c2
    by_cases hlt : i < nl
    · have hlti : (i : Int) < nl := by omega
      have Q1 := Lib.hid (hDR.out wr i hlt hK.out)
      obtain ⟨q, hq1, hq2, hq3⟩ := way_at hright.out (show i < au.length by have := hnau.out; omega)
      obtain ⟨⟨s, gv⟩, hx⟩ : ∃ y, Ls[i]? = some y := ⟨_, List.getElem?_eq_getElem (by have := hnl.out; omega)⟩
      have hA : stA au i = s := stA_of (by rw [← hLs.out]; simp [hx])
      rw [hA] at hq2 hq3
      have hq324 : q ≤ 1000 := by
        have := (wayL_len hright.out i (by have := hnau.out; omega)).2.2
        rw [hA, hq2] at this
        have := hnau.out
        omega
      obtain ⟨row, hrow⟩ : ∃ row, wayL au i = row := ⟨_, rfl⟩
      rw [hrow] at Q1 hq1 hq3
      replace hrow := Lib.hid hrow
      replace hA := Lib.hid hA
      go_upto_region 12 with ((with_reducible refine Q1.out.mono ?_); rintro e w7 ⟨u, rfl, hu, hb7⟩; have hK7 := Lib.hid (hK.out.later hb7); have hu7 := Lib.hid hu; obtain ⟨ua, uc, eu, hcu⟩ := hu; rw [hq1] at eu; subst eu; replace hb7 := True.intro; clear hb7)
      clear Q1 c0 c1 c2 hK
      obtain ⟨ub, uo, rfl, r0⟩ := ints_look hcu hq3
      obtain ⟨b, o, eb, z0, z1, -⟩ := hK7.out.2.2.1.at hx
      obtain ⟨b1, o1, hb1e⟩ : ∃ b o, a1 = some ⟨b, o, none⟩ := ⟨b, o, eb⟩
      subst hb1e
      cases eb
      rw [hq2] at z1
      obtain ⟨st, hst⟩ : ∃ st, s.step = st := ⟨_, rfl⟩
      rw [hst] at z0 r0
      have d0 := hK7.out.2.1.c0
      have e1 : IntKind.wrap .i64 ((q : Int) + 1) = (q : Int) + 1 := by rw [IntKind.wrap_i64]; omega
      have e2 : IntKind.wrap .i64 ((q : Int) + 1 - 1) = (q : Int) := by rw [IntKind.wrap_i64]; omega
      have e3 : (((q : Int) + 1) != ((q : Int) + 1)) = false := by simp
      have e4 : (st != st) = false := by simp
      clear hcu hx hq1 hq2 hq3 hst
      go_quiet (fail)
      have hK8 := Lib.hid (hK7.out.later (drewN_kept w7 nq))
      have hu8 := Lib.hid (hu7.out.later (drewN_kept w7 nq))
      clear hK7 hu7 z0 z1 d0 r0 e1 e2
      go_wp2_with fail
      generalize w7.drewN nq = w8 at *
      clear e3 e4
      go_loopw [7] (fun t wk => ∃ k : Nat, k ≤ i ∧ t = .int .i64 k ∧ Hid (RnK w (.slice a n c) wn P3 (.slice (some ⟨b, o, none⟩) nl c1') (.slice aa na ca) wn Ls A wk) ∧ Hid (NmsAt wk (.slice (some ⟨ub, uo, none⟩) (q + 1) uc) row)) (fun t _ => i - (intOf t).toNat)
      case atStart => exact ⟨0, Nat.zero_le _, rfl, hK8, hu8⟩
      case round =>
        clear hK8 hu8
        obtain ⟨k, hk, rfl, hKk, huk⟩ := hrel
        by_cases hltk : k < i
        · have hltki : (k : Int) < i := by omega
          have c0 := hKk.out.2.1.c0
          have c1 := hKk.out.2.1.c1
          have c2 := hKk.out.2.1.c2
          have Q1 := Lib.hid (hDR.out wr k (by omega) hKk.out)
          have hne : Hid (decide (wayL au k = row) = false) := Lib.hid (decide_eq_false fun e => by
            have h1 := hnau.out
            have h2 := hways.out k (by omega) i (by omega) (e.trans hrow.out.symm)
            omega)
          have hlw : Hid ((wayL au k).length ≤ 1000000) := Lib.hid (by
            have h1 := hnau.out
            have := wayL_len hright.out k (by omega)
            omega)
          go_wp2_with (first
            | ((with_reducible refine Q1.out.mono ?_); rintro e w9 ⟨u9, rfl, hu9, hb9⟩; have hK9 := Lib.hid (hKk.out.later hb9); have huu := Lib.hid (huk.out.later hb9); have Q2 := Lib.hid (ints_any (v := u9) (u := .slice (some ⟨ub, uo, none⟩) (q + 1) uc) hu9 huu.out (by have := hlw.out; omega)); rw [hne.out] at Q2; obtain ⟨u9a, u9c, eu9, -⟩ := hu9; subst eu9; replace hb9 := True.intro; clear hb9)
            | ((with_reducible refine Q2.out.mono ?_); rintro e w10 ⟨rfl, hb10⟩; have hK10 := Lib.hid (hK9.out.later hb10); have hu10 := Lib.hid (huu.out.later hb10); replace hb10 := True.intro; clear hb10))
          exact ⟨⟨k + 1, by omega, by go_num, hK10, hu10⟩, by simp [intOf]; omega⟩
        · have hltki : ¬ (k : Int) < i := by omega
          go_wp2_with fail
          exact ⟨⟨i + 1, by omega, by go_num, hKk⟩, by simp [intOf]; omega⟩
    · have hlti : ¬ (i : Int) < nl := by omega
      go_wp2_with ((with_reducible refine (wakes_any _).mono ?_); rintro e w8 ⟨rfl, hb8⟩)
      go_ret
      exact ⟨rfl, kept_trans hK.out.2.2.2.2 hb8⟩
theorem rowsWalk (v : Value) (L : List (Sp × Value)) (win : Int) (w : World) (h : SpsL w v L) (hl : L.length ≤ maxLen) (hq : ∀ x ∈ L, InSp w x) :
    Calls Tryz.prog 3 #[ptV v win] w fun e w' => e = .returned (.bool true) ∧ Below w.heap.size w w' := by
  cases hg : great (L.map (·.1)) with
  | true => exact rowsGreat v L win w h hl hg
  | false =>
    cases hm : mayB (L.map (·.1)) win with
    | false => exact rowsBad v L win w h hl hq hg hm
    | true => exact rowsMain v L win w h hl hq hg hm
end Go.Proofs.YtccmnngeibpcmaaGreat.Tree
