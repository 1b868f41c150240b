/-
  UnrollOwn's walk; Rows at any pattern that is not too great.
-/
import Derived.Test.YtfkdgaeiiejjlaaGreatUZI
import Derived.Test.YtfkdgaeiiejjlaaGreatRAL
import Derived.Test.YtfkdgaeiiejjlaaGreatCH
import Derived.Deep.RegionWith
import Derived.Deep.CutRange
namespace Go.Proofs.YtfkdgaeiiejjlaaGreat.Tree
open Go.ChangeShapes Go.WideShapes Go.ChangeAt Go.RowKit
set_option linter.unusedVariables false
set_option linter.unusedSimpArgs false
set_option maxRecDepth 100000
attribute [local go_sem] Oper.semAt_some
abbrev WakesU : Prop := ∀ W : World, Calls Tryz.prog 5 #[] W fun e W' => e = .returned (.bool true) ∧ Below W.heap.size W W'
/-- What Rows tells of any pattern. -/
def rowsR (ss : List Sp) (win : Int) : List (List Int) := if mayB ss win = true then rowsP ss else []
theorem rowsR_bd (ss : List Sp) (win : Int) : (rowsR ss win).length ≤ 81 ∧ ∀ r ∈ rowsR ss win, r.length ≤ 12 := by
  unfold rowsR
  split
  · rename_i h
    rw [← rowsK_all ss (Nat.le_refl _)]
    exact (may_good h).rowsK_bd _
  · simp
theorem rows_R {v : Value} {L : List (Sp × Value)} (win : Int) (hc : UnOk L) (w : World) (h : SpsL w v L) :
    Calls Tryz.prog 7 #[ptV v win] w fun e w' => ∃ u, e = .returned u ∧ OwnRows w' w.heap.size u (rowsR (L.map (·.1)) win) ∧ Below w.heap.size w w' := by
  refine (rows_V win hc w h).mono ?_
  rintro e w' ⟨u, h1, h2, h3, h4⟩
  refine ⟨u, h1, ?_, h4⟩
  unfold rowsR
  cases hm : mayB (L.map (·.1)) win with
  | true => rw [if_pos rfl]; exact h2 hm
  | false =>
    rw [if_neg (by simp)]
    obtain rfl := h3 hm
    exact ⟨[], World.ownsRow_nil _ _ _ _, fun i u r hu => by simp at hu⟩
theorem unOk_of {L : List (Sp × Value)} {w : World} (hg : great (L.map (·.1)) = false) (hq : ∀ x ∈ L, InSp w x) : UnOk L := ⟨ck_of hg hq, (Small.of_great hg).1⟩
/-- What the law reads all along: its pattern in a box. -/
def PK (w : World) (v : Value) (win : Int) (X : World) : Prop := PtBox w.heap.size v win X ∧ Below w.heap.size w X
theorem PK.later {w : World} {v : Value} {win : Int} {X Y : World} (h : PK w v win X) (hb : Below X.heap.size X Y) : PK w v win Y := ⟨h.1.later hb, kept_trans h.2 hb⟩
/-- Rows that are turned, one number after the other: a's rows are of a's memory, below N; b's stay. -/
def OwI (w : World) (v : Value) (win : Int) (N : Nat) (ua ub : Value) (vs : List Value) (R : List (List Int)) (X : World) : Prop :=
  X.ownsRow w.heap.size 25 1 ua R.length vs ∧ (∀ (k : Nat) (u : Value) (r : List Int), vs[k]? = some u → R[k]? = some r → ∃ xs : List Int, xs.length = r.length ∧ X.ownsRow w.heap.size 3 1 u r.length (ints xs)) ∧
  (∀ (k : Nat) (u : Value), vs[k]? = some u → ∀ g, u.ownBlock = some g → g < N) ∧ OwnRows X N ub R ∧ PK w v win X
theorem OwI.set {w : World} {v : Value} {win : Int} {N : Nat} {ua ub : Value} {vs : List Value} {R : List (List Int)} {X : World} (h : OwI w v win N ua ub vs R X) {i j : Nat} {g cp m : Nat} {r : List Int}
    (hu : vs[i]? = some (.slice (some ⟨g, 0, none⟩) m cp)) (hr : R[i]? = some r) (hj : j < r.length) (x : Int) : OwI w v win N ua ub vs R (X.setCell ⟨g, j, none⟩ (.int .i64 x)) := by
  obtain ⟨h1, h2, h3, h4, h5⟩ := h
  obtain ⟨xs, hl, ho⟩ := h2 i _ r hu hr
  have hgN := h3 i _ hu g rfl
  have hgr := grownBy_setCell_any X g j (.int .i64 x)
  have hk := own_is ho
  have hSg : w.heap.size ≤ g := own_ge ho g rfl
  obtain ⟨cs, hcs⟩ : ∃ cs, X.heap[g]? = some (.cells cs 3 (0, 0)) := by
    rcases ho.2 with ⟨e, _⟩ | ⟨g', cap, cur, e, _, hg, _⟩
    · cases e
    · cases e; exact ⟨_, hg⟩
  refine ⟨row_kept h1 hgr (fun r e => hk 25 (by decide) r (by cases e; rfl)), fun k u q hku hq => ?_, h3, ?_, ⟨?_, h5.2.setCell (p := ⟨g, j, none⟩) hSg _⟩⟩
  · obtain ⟨ys, hyl, hy⟩ := h2 k u q hku hq
    by_cases e : u.ownBlock = some g
    · rcases hy.2 with ⟨rfl, h0⟩ | ⟨g', cap, cur, rfl, hb, hg, hn, hm, hs, ht⟩
      · simp [Value.ownBlock] at e
      · obtain rfl : g' = g := by simpa [Value.ownBlock] using e
        rw [hcs] at hg
        cases hg
        by_cases hjq : j < q.length
        · have := (hy.stored j (.int .i64 x)).1
          refine ⟨ys.set j x, by simpa using hyl, ?_⟩
          rw [show ints (ys.set j x) = (ints ys).set j (.int .i64 x) from by simp [ints, List.map_set]]
          exact this
        · refine ⟨ys, hyl, hy.1, .inr ⟨g', cap, cs.setIfInBounds j (.int .i64 x), rfl, hb, ?_, hn, hm, by simpa using hs, ?_⟩⟩
          · rw [setCell_eq_setRow X g' j cs 3 (0, 0) _ hcs]
            exact setRow_heap X g' cs _ 3 _ hcs
          · rw [← ht, Array.toList_setIfInBounds, List.take_set_of_le (by omega)]
    · exact ⟨ys, hyl, ownsRow_setCell_other hy e _⟩
  · obtain ⟨vb, k1, k2⟩ := h4
    exact ⟨vb, ownsRow_setCell_below k1 hgN _, fun i u r hu hr => ownsRow_setCell_below (k2 i u r hu hr) hgN _⟩
  · refine block_far h5.1 (fun e => ?_) _ _
    have := h5.1
    rw [e] at this
    rw [show X.heap[g]? = _ from this] at hcs
    cases hcs
theorem own_look {W : World} {base : Nat} {a : Option Addr} {n c m : Nat} {vs : List Value} (h : W.ownsRow base 25 1 (.slice a n c) m vs) {k : Nat} {u : Value} (hu : vs[k]? = some u) : ∃ b, a = some ⟨b, 0, none⟩ ∧ W.cell? ⟨b, k, none⟩ = some u := by
  have hk := (List.getElem?_eq_some_iff.1 hu).1
  have hl : vs.length = m := by have := h.1; simpa using this
  rcases h.2 with ⟨e, h0⟩ | ⟨g, cap, cur, e, hb, hg, hn, hm, hs, ht⟩
  · omega
  · cases e
    refine ⟨g, rfl, ?_⟩
    rw [← ht, List.getElem?_take_of_lt (by omega)] at hu
    simp only [World.cell?, hg]
    simpa using hu
theorem OwnRows.below {W : World} {base : Nat} {v : Value} {R : List (List Int)} {vs : List Value} (h1 : W.ownsRow base 25 1 v R.length vs) (h2 : EachOwn W base vs R) : ∀ (k : Nat) (u : Value), vs[k]? = some u → ∀ g, u.ownBlock = some g → g < W.heap.size := by
  intro k u hu g hg
  have hl : vs.length = R.length := by have := h1.1; simpa using this
  have hk := (List.getElem?_eq_some_iff.1 hu).1
  obtain ⟨r, hr⟩ : ∃ r, R[k]? = some r := ⟨_, List.getElem?_eq_getElem (by omega)⟩
  rcases (h2 k u r hu hr).2 with ⟨rfl, _⟩ | ⟨g', cap, cur, rfl, _, hh, _⟩
  · simp [Value.ownBlock] at hg
  · obtain rfl : g' = g := by simpa [Value.ownBlock] using hg
    exact (Array.getElem?_eq_some_iff.1 hh).1
theorem rows2_W {W : World} {u1 u2 : Value} {vs1 vs2 : List Value} {R : List (List Int)} (h1 : RowsV W u1 vs1 R) (h2 : RowsV W u2 vs2 R) (hl : R.length ≤ 1000000) (hr : ∀ r ∈ R, r.length ≤ 12) :
    Calls Tryz.prog 6 #[u1, u2] W fun e w' => e = .returned (.bool true) ∧ Below W.heap.size W w' := by
  obtain ⟨⟨a1, c1, rfl, -⟩, -⟩ := id h1
  obtain ⟨⟨a2, c2, rfl, -⟩, -⟩ := id h2
  have := rows2_any a1 _ c1 vs1 R a2 _ c2 vs2 R rfl rfl hl hl (fun r h => Nat.le_trans (hr r h) (by omega)) (fun r h => Nat.le_trans (hr r h) (by omega)) W h1 h2
  simpa using this
end Go.Proofs.YtfkdgaeiiejjlaaGreat.Tree
