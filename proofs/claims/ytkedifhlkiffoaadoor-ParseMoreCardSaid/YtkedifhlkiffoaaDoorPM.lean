/-
  Contract of parse.Parse.
-/
import Derived.Test.YtkedifhlkiffoaaDoorPL
import Derived.Test.YtkedifhlkiffoaaDoorPK0
namespace Go.Proofs.YtkedifhlkiffoaaDoor
open Go.ChangeShapes Go.WideShapes Go.ChangeAt Go.RowKit
open Tree (Tm Cp Sp)
set_option linter.unusedVariables false
set_option linter.unusedSimpArgs false
attribute [local go_sem] Oper.semAt_some
theorem set_size (w : World) (a : Addr) (v : Value) : (w.setCell a v).heap.size = w.heap.size := show (w.heap.modify _ _).size = _ from Array.size_modify ..
/-- What Parse tells. -/
def ParsedT (ts : List (Tk × Nat)) (r : Except Nat (List Sp × Int)) (w : World) (e : Ending) (w' : World) : Prop :=
  Below w.heap.size w w' ∧ match r with
    | .ok p => ∃ v L, e = .returned (.tuple #[Tree.ptV v p.2, .int .i64 0, .int .i64 0]) ∧ OwnP w' w.heap.size v L ∧ L.map (·.1) = p.1
    | .error j => ∃ x, ts[j]? = some x ∧ e = .returned (.tuple #[Tree.ptV (.slice none 0 0) 0, .int .i64 x.2, .int .i64 90])
theorem below_but {S : Nat} {w w8 w9 : World} (h : Below w.heap.size w w8) (hb : But3 S (S + 1) (S + 1 + 1) w8 w9) (hS : w.heap.size = S) : Below w.heap.size w w9 :=
  ⟨hb.os.trans h.os, hb.tape.trans h.tape, hb.output.trans h.output, by rw [hb.size]; exact h.size, fun k hk => (hb.block k (by omega) (by omega) (by omega)).trans (h.block k hk)⟩
theorem Toks.ends {p : Nat} {l : Bs} {ts : List (Tk × Nat)} (h : Toks [] p l ts) : EndsT ts ∧ 0 < ts.length := by
  generalize he : ([] : Bs) = e at h
  induction h with
  | fin p b h1 h2 =>
    subst he
    refine ⟨fun k x hx h0 => ?_, by simp⟩
    rcases k with _ | k
    · simp at hx
      subst hx
      exact absurd (show (firstT []).k = 0 by decide) h0
    · simp at hx
  | tok p b t r ts h1 h2 h3 ih =>
    obtain ⟨i1, i2⟩ := ih
    refine ⟨fun k x hx h0 => ?_, by simp⟩
    rcases k with _ | k
    · simpa using i2
    · have := i1 k x (by simpa using hx) h0
      simpa using this
theorem toks_ends (l : Bs) (h6 : ∀ x ∈ toks l, x.1.k ≠ 6) : EndsT (toks l) ∧ 0 < (toks l).length := (toks_whole l h6).ends
set_option maxRecDepth 100000 in
set_option maxHeartbeats 2000000 in
theorem parse_toks (l : Bs) (w : World) (hl : l.length ≤ 2000) (ho : OpsAt w) (h6 : ∀ x ∈ toks l, x.1.k ≠ 6) (hE : EndsT (toks l)) (hn : (toks l).length ≤ 4000) (h0 : 0 < (toks l).length) :
    Calls Tryd.prog 14 #[S l] w (ParsedT (toks l) (patP (toks l)) w) := by
  have hmf : ∀ (fn : Fn) (first cap : Array Value) (w : World), (Instr.makeFunc fn first cap).run Tryd.prog w = .ok (.func fn first cap) w := fun _ _ _ _ => rfl
  go_enter_defers Tryd.func14, Tryd.ntmps14
  have hA0 : (((w.alloc (.cells #[.slice none 0 0, .int .i64 0] 25)).alloc (.cells #[.int .i64 0] 3)).alloc (.cells #[.int .i64 0] 26)).heap[w.heap.size]? = some (.cells #[.slice none 0 0, .int .i64 0] 25 (0, 0)) :=
    (((World.grownBy_alloc (w.alloc (.cells #[.slice none 0 0, .int .i64 0] 25)) (.cells #[.int .i64 0] 3) none).trans (World.grownBy_alloc _ (.cells #[.int .i64 0] 26) none)).block _ (by simp) (by simp)).trans (World.alloc_heap_new w _)
  have hB0 : (((w.alloc (.cells #[.slice none 0 0, .int .i64 0] 25)).alloc (.cells #[.int .i64 0] 3)).alloc (.cells #[.int .i64 0] 26)).heap[w.heap.size + 1]? = some (.cells #[.int .i64 0] 3 (0, 0)) := by
    refine ((World.grownBy_alloc ((w.alloc (.cells #[.slice none 0 0, .int .i64 0] 25)).alloc (.cells #[.int .i64 0] 3)) (.cells #[.int .i64 0] 26) none).block _ (by simp) (by simp)).trans ?_
    have := World.alloc_heap_new (w.alloc (.cells #[.slice none 0 0, .int .i64 0] 25)) (.cells #[.int .i64 0] 3)
    rwa [World.size_alloc] at this
  have hC0 : (((w.alloc (.cells #[.slice none 0 0, .int .i64 0] 25)).alloc (.cells #[.int .i64 0] 3)).alloc (.cells #[.int .i64 0] 26)).heap[w.heap.size + 1 + 1]? = some (.cells #[.int .i64 0] 26 (0, 0)) := by
    have := World.alloc_heap_new ((w.alloc (.cells #[.slice none 0 0, .int .i64 0] 25)).alloc (.cells #[.int .i64 0] 3)) (.cells #[.int .i64 0] 26)
    rwa [World.size_alloc, World.size_alloc] at this
  have hb3 : Below w.heap.size w (((w.alloc (.cells #[.slice none 0 0, .int .i64 0] 25)).alloc (.cells #[.int .i64 0] 3)).alloc (.cells #[.int .i64 0] 26)) :=
    (((Below.refl _ w).alloc (Nat.le_refl _) _).alloc (by simp) _).alloc (by simp; omega) _
  have hs3 : (((w.alloc (.cells #[.slice none 0 0, .int .i64 0] 25)).alloc (.cells #[.int .i64 0] 3)).alloc (.cells #[.int .i64 0] 26)).heap.size = w.heap.size + 3 := by simp
  go_wp2_with fail
  generalize (((w.alloc (.cells #[.slice none 0 0, .int .i64 0] 25)).alloc (.cells #[.int .i64 0] 3)).alloc (.cells #[.int .i64 0] 26)) = W3 at *
  have ho3 := ho.later hb3
  obtain ⟨S, hS⟩ : ∃ S, w.heap.size = S := ⟨_, rfl⟩
  rw [hS] at hA0 hB0 hC0 hs3 hb3 ⊢
  replace hE := Lib.hid hE
  replace h6 := Lib.hid h6
  (with_reducible refine (lexAll_ok l W3 hl ho3 h6.out).mono ?_)
  rintro e w4 ⟨v, rfl, hT, hb4⟩
  obtain ⟨g, c, rfl⟩ := tks_some hT h0
  have hA4 := (hb4.block S (by omega)).trans hA0
  have hB4 := (hb4.block (S + 1) (by omega)).trans hB0
  have hC4 := (hb4.block (S + 1 + 1) (by omega)).trans hC0
  have hg4 : W3.heap.size ≤ g := (hT.lt g rfl).1
  have hgl4 : g < w4.heap.size := (hT.lt g rfl).2
  have hnc : (toks l).length ≤ c := by
    rcases hT.2 with ⟨e, -⟩ | ⟨g', cap, cur, e, -, -, hcap, -⟩
    · cases e
    · cases e; exact hcap
  have b0 : w4.cell? ⟨S + 1, 0, none⟩ = some (.int .i64 0) := by simp [World.cell?, hB4]
  have b1 : w4.frozen? ⟨S + 1, 0, none⟩ = false := by simp [World.frozen?, hB4]
  have hB5 := box_set hB4 0 (.int .i64 0)
  have hC5 := box_far (o := 0) (v := .int .i64 0) hC4 (by omega : S + 1 + 1 ≠ S + 1)
  have hA5 := box_far (o := 0) (v := .int .i64 0) hA4 (by omega : S ≠ S + 1)
  simp only [List.setIfInBounds_toArray, List.set_cons_zero, List.set_cons_succ] at hB5
  have c0 : (w4.setCell ⟨S + 1, 0, none⟩ (.int .i64 0)).cell? ⟨S + 1 + 1, 0, none⟩ = some (.int .i64 0) := by simp [World.cell?, hC5]
  have c1 : (w4.setCell ⟨S + 1, 0, none⟩ (.int .i64 0)).frozen? ⟨S + 1 + 1, 0, none⟩ = false := by simp [World.frozen?, hC5]
  have hB6 := box_far (o := 0) (v := .int .i64 0) hB5 (by omega : S + 1 ≠ S + 1 + 1)
  have hA6 := box_far (o := 0) (v := .int .i64 0) hA5 (by omega : S ≠ S + 1 + 1)
  have hC6 := box_set hC5 0 (.int .i64 0)
  simp only [List.setIfInBounds_toArray, List.set_cons_zero, List.set_cons_succ] at hC6
  have c2 : ((w4.setCell ⟨S + 1, 0, none⟩ (.int .i64 0)).setCell ⟨S + 1 + 1, 0, none⟩ (.int .i64 0)).cell? ⟨S + 1 + 1, 0, none⟩ = some (.int .i64 0) := by simp [World.cell?, hC6]
  have g1 := set_grown w4 (S + 1) 0 (.int .i64 0)
  have g2 := set_grown (w4.setCell ⟨S + 1, 0, none⟩ (.int .i64 0)) (S + 1 + 1) 0 (.int .i64 0)
  go_wp2_with fail
  have hsz6 : ((w4.setCell ⟨S + 1, 0, none⟩ (.int .i64 0)).setCell ⟨S + 1 + 1, 0, none⟩ (.int .i64 0)).heap.size = w4.heap.size := by
    rw [set_size, set_size]
  have hAl := World.grownBy_alloc ((w4.setCell ⟨S + 1, 0, none⟩ (.int .i64 0)).setCell ⟨S + 1 + 1, 0, none⟩ (.int .i64 0)) (.cells #[.slice (some ⟨g, 0, none⟩) (toks l).length c] 61) none
  have hT6 : TksAt W3.heap.size (.slice (some ⟨g, 0, none⟩) (toks l).length c) (toks l) (((w4.setCell ⟨S + 1, 0, none⟩ (.int .i64 0)).setCell ⟨S + 1 + 1, 0, none⟩ (.int .i64 0)).alloc (.cells #[.slice (some ⟨g, 0, none⟩) (toks l).length c] 61)) :=
    ((World.ownsRow.kept (World.ownsRow.kept hT g1 (.inr (by simp [Value.ownBlock]; omega))) g2 (.inr (by simp [Value.ownBlock]; omega)))).alloc _
  have hRd : RdK w4.heap.size g c (toks l) 0 (((w4.setCell ⟨S + 1, 0, none⟩ (.int .i64 0)).setCell ⟨S + 1 + 1, 0, none⟩ (.int .i64 0)).alloc (.cells #[.slice (some ⟨g, 0, none⟩) (toks l).length c] 61)) := by
    refine ⟨⟨_, ?_, fun _ => rfl⟩, ⟨_, hT6⟩, by omega, hnc⟩
    have := World.alloc_heap_new ((w4.setCell ⟨S + 1, 0, none⟩ (.int .i64 0)).setCell ⟨S + 1 + 1, 0, none⟩ (.int .i64 0)) (.cells #[.slice (some ⟨g, 0, none⟩) (toks l).length c] 61)
    rw [hsz6] at this
    simpa using this
  have hw6 : Below S w (((w4.setCell ⟨S + 1, 0, none⟩ (.int .i64 0)).setCell ⟨S + 1 + 1, 0, none⟩ (.int .i64 0)).alloc (.cells #[.slice (some ⟨g, 0, none⟩) (toks l).length c] 61)) := by
    have hb5 := hb3.trans (hb4.mono (by omega))
    have := hb4.size
    have := g1.size
    have := g2.size
    have e1 := hb5.grown g1 (by omega) (fun j e => by cases e; omega)
    have e2 := e1.grown g2 (by omega) (fun j e => by cases e; omega)
    exact e2.grown hAl (by omega) (fun j e => by cases e)
  have hA7 := (hAl.block S (by omega) (by simp)).trans hA6
  have hB7 := (hAl.block (S + 1) (by omega) (by simp)).trans hB6
  have hC7 := (hAl.block (S + 1 + 1) (by omega) (by simp)).trans hC6
  have hs7 : S + 3 ≤ (((w4.setCell ⟨S + 1, 0, none⟩ (.int .i64 0)).setCell ⟨S + 1 + 1, 0, none⟩ (.int .i64 0)).alloc (.cells #[.slice (some ⟨g, 0, none⟩) (toks l).length c] 61)).heap.size := by simp; omega
  clear hT6 hAl g1 g2 hA6 hB6 hC6 hC5 hB5 hA5 c0 c1 c2 b0 b1 hA4 hB4 hC4 hT
  generalize (((w4.setCell ⟨S + 1, 0, none⟩ (.int .i64 0)).setCell ⟨S + 1 + 1, 0, none⟩ (.int .i64 0)).alloc (.cells #[.slice (some ⟨g, 0, none⟩) (toks l).length c] 61)) = W6 at *
  obtain ⟨R, hR⟩ : ∃ R, w4.heap.size = R := ⟨_, rfl⟩
  rw [hR] at hRd hgl4 ⊢
  have hRS : S + 3 ≤ R := by have := hb4.size; omega
  clear hsz6 hb4 hR hb3 hA0 hB0 hC0
  (with_reducible refine (pattern_P W6 hE.out hn h0 hRd).mono ?_)
  rintro e w8 ⟨hg8, hP⟩
  have hA8 := (hg8.block S (by omega) (by simp; omega)).trans hA7
  have hB8 := (hg8.block (S + 1) (by omega) (by simp; omega)).trans hB7
  have hC8 := (hg8.block (S + 1 + 1) (by omega) (by simp; omega)).trans hC7
  have hw8 := hw6.grown hg8 (by omega) (fun j e => by cases e; omega)
  have hs8 := hg8.size
  cases hp : patP (toks l) with
  | error j =>
    rw [hp] at hP
    obtain ⟨x, hx, rfl⟩ := hP
    go_wp2_with fail
    refine leaves_cons (f := 39) (args := #[.pointer (some ⟨S, 0, none⟩), .pointer (some ⟨S + 1, 0, none⟩), .pointer (some ⟨S + 1 + 1, 0, none⟩)]) (by simp) (by simp [go_sem]) ?_
    refine (catch_tok S (S + 1) (S + 1 + 1) x _ _ _ _ w8 hA8 hB8 hC8 (by omega) (by omega) (by omega)).mono ?_
    rintro e u' w9 ⟨⟨hbut, zA, zB, zC⟩, rfl, rfl⟩
    have y0 : w9.cell? ⟨S, 0, none⟩ = some (.slice none 0 0) := by simp [World.cell?, zA]
    have y1 : w9.cell? ⟨S, 1, none⟩ = some (.int .i64 0) := by simp [World.cell?, zA]
    have y2 : w9.cell? ⟨S + 1, 0, none⟩ = some (.int .i64 x.2) := by simp [World.cell?, zB]
    have y3 : w9.cell? ⟨S + 1 + 1, 0, none⟩ = some (.int .i64 90) := by simp [World.cell?, zC]
    have hT : ParsedT (toks l) (.error j) w (.returned (.tuple #[.agg #[.slice none 0 0, .int .i64 0], .int .i64 x.2, .int .i64 90])) w9 :=
      ⟨below_but (by rw [hS]; exact hw8) hbut hS, x, hx, rfl⟩
    replace hT := Lib.hid hT
    simp [Leaves, settle, results, Tryd.results14, go_sem, y0, y1, y2, y3]
    exact hT.out
  | ok p =>
    rw [hp] at hP
    obtain ⟨u, rfl, v, L, rfl, hO, hL⟩ := hP
    obtain ⟨va, vc, rfl⟩ : ∃ a c, v = .slice a L.length c := by
      rcases hO.1.2 with ⟨rfl, hn⟩ | ⟨g, cap, cur, e1, r⟩
      · exact ⟨none, 0, by rw [hn]⟩
      · exact ⟨_, _, e1⟩
    obtain ⟨N, hN⟩ : ∃ N, L.length = N := ⟨_, rfl⟩
    rw [hN] at hO ⊢
    have a0 : w8.cell? ⟨S, 0, none⟩ = some (.slice none 0 0) := by simp [World.cell?, hA8]
    have a1 : w8.frozen? ⟨S, 0, none⟩ = false := by simp [World.frozen?, hA8]
    have hA9 := box_set hA8 0 (.slice va N vc)
    simp only [List.setIfInBounds_toArray, List.set_cons_zero, List.set_cons_succ] at hA9
    have a2 : (w8.setCell ⟨S, 0, none⟩ (.slice va N vc)).cell? ⟨S, 1, none⟩ = some (.int .i64 0) := by simp [World.cell?, hA9]
    have a3 : (w8.setCell ⟨S, 0, none⟩ (.slice va N vc)).frozen? ⟨S, 1, none⟩ = false := by simp [World.frozen?, hA9]
    have hA10 := box_set hA9 1 (.int .i64 p.2)
    simp only [List.setIfInBounds_toArray, List.set_cons_zero, List.set_cons_succ] at hA10
    have hB10 := box_far (o := 1) (v := .int .i64 p.2) (box_far (o := 0) (v := .slice va N vc) hB8 (by omega : S + 1 ≠ S)) (by omega : S + 1 ≠ S)
    have hC10 := box_far (o := 1) (v := .int .i64 p.2) (box_far (o := 0) (v := .slice va N vc) hC8 (by omega : S + 1 + 1 ≠ S)) (by omega : S + 1 + 1 ≠ S)
    have hs10 := set_grown w8 S 0 (.slice va N vc)
    have hs11 := set_grown (w8.setCell ⟨S, 0, none⟩ (.slice va N vc)) S 1 (.int .i64 p.2)
    have hW10 := (hw8.grown hs10 (by omega) (fun j e => by cases e; omega)).grown hs11 (by rw [set_size]; omega) (fun j e => by cases e; omega)
    have hO10 := (hO.kept hs10 (fun q e => by cases e; omega)).kept hs11 (fun q e => by cases e; omega)
    have hz10 : S + 3 ≤ ((w8.setCell ⟨S, 0, none⟩ (.slice va N vc)).setCell ⟨S, 1, none⟩ (.int .i64 p.2)).heap.size := by rw [set_size, set_size]; omega
    have b0 : ((w8.setCell ⟨S, 0, none⟩ (.slice va N vc)).setCell ⟨S, 1, none⟩ (.int .i64 p.2)).cell? ⟨S + 1, 0, none⟩ = some (.int .i64 0) := by simp [World.cell?, hB10]
    have b1 : ((w8.setCell ⟨S, 0, none⟩ (.slice va N vc)).setCell ⟨S, 1, none⟩ (.int .i64 p.2)).frozen? ⟨S + 1, 0, none⟩ = false := by simp [World.frozen?, hB10]
    clear hs10 hs11 hO hB8 hC8 hA8 hA9
    have q1 := set_grown ((w8.setCell ⟨S, 0, none⟩ (.slice va N vc)).setCell ⟨S, 1, none⟩ (.int .i64 p.2)) (S + 1) 0 (.int .i64 0)
    have hB11 := box_set hB10 0 (.int .i64 0)
    simp only [List.setIfInBounds_toArray, List.set_cons_zero, List.set_cons_succ] at hB11
    have hC11 := box_far (o := 0) (v := .int .i64 0) hC10 (by omega : S + 1 + 1 ≠ S + 1)
    have hA11 := box_far (o := 0) (v := .int .i64 0) hA10 (by omega : S ≠ S + 1)
    have c0 : (((w8.setCell ⟨S, 0, none⟩ (.slice va N vc)).setCell ⟨S, 1, none⟩ (.int .i64 p.2)).setCell ⟨S + 1, 0, none⟩ (.int .i64 0)).cell? ⟨S + 1 + 1, 0, none⟩ = some (.int .i64 0) := by simp [World.cell?, hC11]
    have c1 : (((w8.setCell ⟨S, 0, none⟩ (.slice va N vc)).setCell ⟨S, 1, none⟩ (.int .i64 p.2)).setCell ⟨S + 1, 0, none⟩ (.int .i64 0)).frozen? ⟨S + 1 + 1, 0, none⟩ = false := by simp [World.frozen?, hC11]
    have q2 := set_grown (((w8.setCell ⟨S, 0, none⟩ (.slice va N vc)).setCell ⟨S, 1, none⟩ (.int .i64 p.2)).setCell ⟨S + 1, 0, none⟩ (.int .i64 0)) (S + 1 + 1) 0 (.int .i64 0)
    have hC12 := box_set hC11 0 (.int .i64 0)
    simp only [List.setIfInBounds_toArray, List.set_cons_zero, List.set_cons_succ] at hC12
    have hA12 := box_far (o := 0) (v := .int .i64 0) hA11 (by omega : S ≠ S + 1 + 1)
    have hB12 := box_far (o := 0) (v := .int .i64 0) hB11 (by omega : S + 1 ≠ S + 1 + 1)
    have hW12 := (hW10.grown q1 (by omega) (fun j e => by cases e; omega)).grown q2 (by rw [set_size]; omega) (fun j e => by cases e; omega)
    have hO12 := (hO10.kept q1 (fun q e => by cases e; omega)).kept q2 (fun q e => by cases e; omega)
    obtain ⟨WZ, hWZ⟩ : ∃ W, (((w8.setCell ⟨S, 0, none⟩ (.slice va N vc)).setCell ⟨S, 1, none⟩ (.int .i64 p.2)).setCell ⟨S + 1, 0, none⟩ (.int .i64 0)).setCell ⟨S + 1 + 1, 0, none⟩ (.int .i64 0) = W := ⟨_, rfl⟩
    go_wp2_with fail
    rw [hWZ] at hA12 hB12 hC12 hW12 hO12
    rw [hp]
    refine leaves_cons (f := 39) (args := #[.pointer (some ⟨S, 0, none⟩), .pointer (some ⟨S + 1, 0, none⟩), .pointer (some ⟨S + 1 + 1, 0, none⟩)]) (by simp) (by simp [go_sem]) ?_
    clear hWZ b0 b1 c0 c1 a0 a1 a2 a3
    refine (catch_none S (S + 1) (S + 1 + 1) WZ).mono ?_
    rintro e u' w9 ⟨rfl, rfl, rfl⟩
    have y0 : w9.cell? ⟨S, 0, none⟩ = some (.slice va N vc) := by simp [World.cell?, hA12]
    have y1 : w9.cell? ⟨S, 1, none⟩ = some (.int .i64 p.2) := by simp [World.cell?, hA12]
    have y2 : w9.cell? ⟨S + 1, 0, none⟩ = some (.int .i64 0) := by simp [World.cell?, hB12]
    have y3 : w9.cell? ⟨S + 1 + 1, 0, none⟩ = some (.int .i64 0) := by simp [World.cell?, hC12]
    have hT : ParsedT (toks l) (.ok p) w (.returned (.tuple #[.agg #[.slice va N vc, .int .i64 p.2], .int .i64 0, .int .i64 0])) w9 :=
      ⟨by rw [hS]; exact hW12, _, L, rfl, ⟨World.ownsRow.mono' hO12.1 (by omega), fun x hx => OwnC.mono (hO12.2 x hx) (by omega)⟩, hL⟩
    replace hT := Lib.hid hT
    simp [Leaves, settle, results, Tryd.results14, go_sem, y0, y1, y2, y3]
    exact hT.out
def ParsedB (p n : Int) (w : World) (e : Ending) (w' : World) : Prop := Below w.heap.size w w' ∧ e = .returned (.tuple #[Tree.ptV (.slice none 0 0) 0, .int .i64 p, .int .i64 n])
set_option maxRecDepth 100000 in
set_option maxHeartbeats 2000000 in
theorem parse_lexbad (s : ByteArray) (p n : Int) (hn : n ≠ 0) (w : World) (ho : OpsAt w) (hM : ∀ W, OpsAt W → Calls Tryd.prog 38 #[.string s] W fun e w' => e = .returned (.tuple #[.slice none 0 0, .int .i64 p, .int .i64 n]) ∧ Below W.heap.size W w') :
    Calls Tryd.prog 14 #[.string s] w (ParsedB p n w) := by
  have hmf : ∀ (fn : Fn) (first cap : Array Value) (w : World), (Instr.makeFunc fn first cap).run Tryd.prog w = .ok (.func fn first cap) w := fun _ _ _ _ => rfl
  replace hM := Lib.hid hM
  go_enter_defers Tryd.func14, Tryd.ntmps14
  have hA0 : (((w.alloc (.cells #[.slice none 0 0, .int .i64 0] 25)).alloc (.cells #[.int .i64 0] 3)).alloc (.cells #[.int .i64 0] 26)).heap[w.heap.size]? = some (.cells #[.slice none 0 0, .int .i64 0] 25 (0, 0)) :=
    (((World.grownBy_alloc (w.alloc (.cells #[.slice none 0 0, .int .i64 0] 25)) (.cells #[.int .i64 0] 3) none).trans (World.grownBy_alloc _ (.cells #[.int .i64 0] 26) none)).block _ (by simp) (by simp)).trans (World.alloc_heap_new w _)
  have hB0 : (((w.alloc (.cells #[.slice none 0 0, .int .i64 0] 25)).alloc (.cells #[.int .i64 0] 3)).alloc (.cells #[.int .i64 0] 26)).heap[w.heap.size + 1]? = some (.cells #[.int .i64 0] 3 (0, 0)) := by
    refine ((World.grownBy_alloc ((w.alloc (.cells #[.slice none 0 0, .int .i64 0] 25)).alloc (.cells #[.int .i64 0] 3)) (.cells #[.int .i64 0] 26) none).block _ (by simp) (by simp)).trans ?_
    have := World.alloc_heap_new (w.alloc (.cells #[.slice none 0 0, .int .i64 0] 25)) (.cells #[.int .i64 0] 3)
    rwa [World.size_alloc] at this
  have hC0 : (((w.alloc (.cells #[.slice none 0 0, .int .i64 0] 25)).alloc (.cells #[.int .i64 0] 3)).alloc (.cells #[.int .i64 0] 26)).heap[w.heap.size + 1 + 1]? = some (.cells #[.int .i64 0] 26 (0, 0)) := by
    have := World.alloc_heap_new ((w.alloc (.cells #[.slice none 0 0, .int .i64 0] 25)).alloc (.cells #[.int .i64 0] 3)) (.cells #[.int .i64 0] 26)
    rwa [World.size_alloc, World.size_alloc] at this
  have hb3 : Below w.heap.size w (((w.alloc (.cells #[.slice none 0 0, .int .i64 0] 25)).alloc (.cells #[.int .i64 0] 3)).alloc (.cells #[.int .i64 0] 26)) :=
    (((Below.refl _ w).alloc (Nat.le_refl _) _).alloc (by simp) _).alloc (by simp; omega) _
  have hs3 : (((w.alloc (.cells #[.slice none 0 0, .int .i64 0] 25)).alloc (.cells #[.int .i64 0] 3)).alloc (.cells #[.int .i64 0] 26)).heap.size = w.heap.size + 3 := by simp
  go_wp2_with fail
  generalize (((w.alloc (.cells #[.slice none 0 0, .int .i64 0] 25)).alloc (.cells #[.int .i64 0] 3)).alloc (.cells #[.int .i64 0] 26)) = W3 at *
  have ho3 := ho.later hb3
  obtain ⟨S, hS⟩ : ∃ S, w.heap.size = S := ⟨_, rfl⟩
  rw [hS] at hA0 hB0 hC0 hs3 hb3 ⊢
  (with_reducible refine (hM.out W3 ho3).mono ?_)
  rintro e w4 ⟨rfl, hb4⟩
  clear hM
  have hsz4 := hb4.size
  have hA4 := (hb4.block S (by omega)).trans hA0
  have hB4 := (hb4.block (S + 1) (by omega)).trans hB0
  have hC4 := (hb4.block (S + 1 + 1) (by omega)).trans hC0
  have b0 : w4.cell? ⟨S + 1, 0, none⟩ = some (.int .i64 0) := by simp [World.cell?, hB4]
  have b1 : w4.frozen? ⟨S + 1, 0, none⟩ = false := by simp [World.frozen?, hB4]
  have hB5 := box_set hB4 0 (.int .i64 p)
  have hC5 := box_far (o := 0) (v := .int .i64 p) hC4 (by omega : S + 1 + 1 ≠ S + 1)
  have hA5 := box_far (o := 0) (v := .int .i64 p) hA4 (by omega : S ≠ S + 1)
  simp only [List.setIfInBounds_toArray, List.set_cons_zero, List.set_cons_succ] at hB5
  have c0 : (w4.setCell ⟨S + 1, 0, none⟩ (.int .i64 p)).cell? ⟨S + 1 + 1, 0, none⟩ = some (.int .i64 0) := by simp [World.cell?, hC5]
  have c1 : (w4.setCell ⟨S + 1, 0, none⟩ (.int .i64 p)).frozen? ⟨S + 1 + 1, 0, none⟩ = false := by simp [World.frozen?, hC5]
  have hB6 := box_far (o := 0) (v := .int .i64 n) hB5 (by omega : S + 1 ≠ S + 1 + 1)
  have hA6 := box_far (o := 0) (v := .int .i64 n) hA5 (by omega : S ≠ S + 1 + 1)
  have hC6 := box_set hC5 0 (.int .i64 n)
  simp only [List.setIfInBounds_toArray, List.set_cons_zero, List.set_cons_succ] at hC6
  have c2 : ((w4.setCell ⟨S + 1, 0, none⟩ (.int .i64 p)).setCell ⟨S + 1 + 1, 0, none⟩ (.int .i64 n)).cell? ⟨S + 1 + 1, 0, none⟩ = some (.int .i64 n) := by simp [World.cell?, hC6]
  have g1 := set_grown w4 (S + 1) 0 (.int .i64 p)
  have g2 := set_grown (w4.setCell ⟨S + 1, 0, none⟩ (.int .i64 p)) (S + 1 + 1) 0 (.int .i64 n)
  have hW6 : Below S w ((w4.setCell ⟨S + 1, 0, none⟩ (.int .i64 p)).setCell ⟨S + 1 + 1, 0, none⟩ (.int .i64 n)) := by
    have hb5 := hb3.trans (hb4.mono (by omega))
    have := g1.size
    have e1 := hb5.grown g1 (by omega) (fun j e => by cases e; omega)
    exact e1.grown g2 (by omega) (fun j e => by cases e; omega)
  obtain ⟨W6, hW⟩ : ∃ W, (w4.setCell ⟨S + 1, 0, none⟩ (.int .i64 p)).setCell ⟨S + 1 + 1, 0, none⟩ (.int .i64 n) = W := ⟨_, rfl⟩
  rw [hW] at hB6 hA6 hC6 c2 hW6
  have y0 : W6.cell? ⟨S, 0, none⟩ = some (.slice none 0 0) := by simp [World.cell?, hA6]
  have y1 : W6.cell? ⟨S, 1, none⟩ = some (.int .i64 0) := by simp [World.cell?, hA6]
  have y2 : W6.cell? ⟨S + 1, 0, none⟩ = some (.int .i64 p) := by simp [World.cell?, hB6]
  have f0 : ∀ i, W6.frozen? ⟨S, i, none⟩ = false := fun i => by simp [World.frozen?, hA6]
  have f2 : W6.frozen? ⟨S + 1, 0, none⟩ = false := by simp [World.frozen?, hB6]
  have f3 : W6.frozen? ⟨S + 1 + 1, 0, none⟩ = false := by simp [World.frozen?, hC6]
  have hne : (n == 0) = false := by simpa using hn
  go_wp2_with fail
  go_region
  all_goals go_wp2_with fail
  all_goals
    have zA : ((((W6.setCell ⟨S, 0, none⟩ (.slice none 0 0)).setCell ⟨S, 1, none⟩ (.int .i64 0)).setCell ⟨S + 1, 0, none⟩ (.int .i64 p)).setCell ⟨S + 1 + 1, 0, none⟩ (.int .i64 n)).drew.heap[S]? = some (.cells #[.slice none 0 0, .int .i64 0] 25 (0, 0)) := by
      rw [heap_drew, heap_set_far (by omega), heap_set_far (by omega), heap_set_self (heap_set_self hA6)]
      rfl
    have zB : ((((W6.setCell ⟨S, 0, none⟩ (.slice none 0 0)).setCell ⟨S, 1, none⟩ (.int .i64 0)).setCell ⟨S + 1, 0, none⟩ (.int .i64 p)).setCell ⟨S + 1 + 1, 0, none⟩ (.int .i64 n)).drew.heap[S + 1]? = some (.cells #[.int .i64 p] 3 (0, 0)) := by
      rw [heap_drew, heap_set_far (by omega), heap_set_self (cs := #[.int .i64 p]) (t := 3) (fz := (0, 0)) (by rw [heap_set_far (by omega), heap_set_far (by omega), hB6])]
      rfl
    have zC : ((((W6.setCell ⟨S, 0, none⟩ (.slice none 0 0)).setCell ⟨S, 1, none⟩ (.int .i64 0)).setCell ⟨S + 1, 0, none⟩ (.int .i64 p)).setCell ⟨S + 1 + 1, 0, none⟩ (.int .i64 n)).drew.heap[S + 1 + 1]? = some (.cells #[.int .i64 n] 26 (0, 0)) := by
      rw [heap_drew, heap_set_self (cs := #[.int .i64 n]) (t := 26) (fz := (0, 0)) (by rw [heap_set_far (by omega), heap_set_far (by omega), heap_set_far (by omega), hC6])]
      rfl
    have hbut : But3 S (S + 1) (S + 1 + 1) W6 ((((W6.setCell ⟨S, 0, none⟩ (.slice none 0 0)).setCell ⟨S, 1, none⟩ (.int .i64 0)).setCell ⟨S + 1, 0, none⟩ (.int .i64 p)).setCell ⟨S + 1 + 1, 0, none⟩ (.int .i64 n)).drew := but3_drew (but3_set (but3_set (but3_set (but3_set (but3_refl _ _ _ W6) (.inl rfl)) (.inl rfl)) (.inr (.inl rfl))) (.inr (.inr rfl)))
    clear y0 y1 y2 f0 f2 f3 c2 hW
    generalize ((((W6.setCell ⟨S, 0, none⟩ (.slice none 0 0)).setCell ⟨S, 1, none⟩ (.int .i64 0)).setCell ⟨S + 1, 0, none⟩ (.int .i64 p)).setCell ⟨S + 1 + 1, 0, none⟩ (.int .i64 n)).drew = WZ at *
    have y0 : WZ.cell? ⟨S, 0, none⟩ = some (.slice none 0 0) := by simp [World.cell?, zA]
    have y1 : WZ.cell? ⟨S, 1, none⟩ = some (.int .i64 0) := by simp [World.cell?, zA]
    have y2 : WZ.cell? ⟨S + 1, 0, none⟩ = some (.int .i64 p) := by simp [World.cell?, zB]
    have y3 : WZ.cell? ⟨S + 1 + 1, 0, none⟩ = some (.int .i64 n) := by simp [World.cell?, zC]
    have hT : ParsedB p n w (.returned (.tuple #[.agg #[.slice none 0 0, .int .i64 0], .int .i64 p, .int .i64 n])) WZ := ⟨below_but (by rw [hS]; exact hW6) hbut hS, rfl⟩
    replace hT := Lib.hid hT
    simp [bodyPostD, Leaves, settle, results, Tryd.results14, go_sem, y0, y1, y2, y3]
    exact hT.out
/-- What Parse tells of a text: a pattern, or a place and an error. -/
def parseL (l : Bs) : Except (Int × Int) (List Sp × Int) :=
  if 2000 < l.length then .error (2000, 91) else
  match (toks l).find? (fun x => decide (x.1.k = 6)) with
  | some x => .error (x.2, 70)
  | none => match patP (toks l) with
    | .ok p => .ok p
    | .error j => .error (((toks l)[j]?.map (fun x => (x.2 : Int))).getD 0, 90)
def ParsedL (r : Except (Int × Int) (List Sp × Int)) (w : World) (e : Ending) (w' : World) : Prop :=
  Below w.heap.size w w' ∧ match r with
    | .ok p => ∃ v L, e = .returned (.tuple #[Tree.ptV v p.2, .int .i64 0, .int .i64 0]) ∧ OwnP w' w.heap.size v L ∧ L.map (·.1) = p.1
    | .error q => e = .returned (.tuple #[Tree.ptV (.slice none 0 0) 0, .int .i64 q.1, .int .i64 q.2])
theorem parse_L (l : Bs) (w : World) (ho : OpsAt w) : Calls Tryd.prog 14 #[S l] w (ParsedL (parseL l) w) := by
  unfold parseL
  by_cases hl : 2000 < l.length
  · rw [if_pos hl]
    exact parse_lexbad ⟨l.toArray⟩ 2000 91 (by decide) w ho (fun W _ => all_long ⟨l.toArray⟩ W hl)
  · rw [if_neg hl]
    cases h6 : (toks l).find? (fun x => decide (x.1.k = 6)) with
    | some x =>
      have hm := List.mem_of_find?_eq_some h6
      have hk : x.1.k = 6 := by have := List.find?_some h6; simpa using this
      exact parse_lexbad ⟨l.toArray⟩ x.2 70 (by decide) w ho (fun W hW => lexAll_bad l W (by omega) hW x.1 x.2 hm hk)
    | none =>
      have hno : ∀ x ∈ toks l, x.1.k ≠ 6 := fun x hx he => by
        have := List.find?_eq_none.1 h6 x hx
        simp [he] at this
      obtain ⟨hE, h0⟩ := toks_ends l hno
      refine (parse_toks l w (by omega) ho hno hE (by have := toks_le l; omega) h0).mono ?_
      rintro e w' ⟨hb, hm⟩
      refine ⟨hb, ?_⟩
      cases hp : patP (toks l) with
      | ok p => rw [hp] at hm; exact hm
      | error j =>
        rw [hp] at hm
        obtain ⟨x, hx, rfl⟩ := hm
        simp [hx]
end Go.Proofs.YtkedifhlkiffoaaDoor
