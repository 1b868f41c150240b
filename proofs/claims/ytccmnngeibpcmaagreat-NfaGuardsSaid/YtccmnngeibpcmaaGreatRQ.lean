/-
  Rows of numbers that a loop over a function lays, one by one; contract of tree.Names.
-/
import Derived.Test.YtccmnngeibpcmaaGreatRP
import Derived.RangeFuncFrom
import Derived.RangeFuncKeeps
import Derived.Maps.AppendAt
import Derived.OwnWalkIn
import Derived.Shelf.Abstract
namespace Go.Proofs.YtccmnngeibpcmaaGreat.Tree
open Go.ChangeShapes Go.WideShapes Go.ChangeAt Go.RowKit
set_option linter.unusedVariables false
set_option linter.unusedSimpArgs false
attribute [local go_sem] Oper.semAt_some
theorem row_kept {W W' : World} {base : Nat} {e : TypeId} {size n : Nat} {v : Value} {xs : List Value} {row : Option Nat} (h : W.ownsRow base e size v n xs) (hg : W.grownBy W' row) (hrow : ∀ r, row = some r → ∃ o : Obj, W.heap[r]? = some o ∧ ∀ cs fz, o ≠ .cells cs e fz) : W'.ownsRow base e size v n xs := by
  refine h.kept hg ?_
  rcases h.2 with ⟨rfl, _⟩ | ⟨g, cap, cur, rfl, _, hgb, _⟩
  · exact .inl rfl
  · refine .inr fun e' => ?_
    obtain ⟨o, ho, hc⟩ := hrow g (by simpa [Value.ownBlock] using e'.symm)
    rw [hgb] at ho; cases ho; exact hc _ _ rfl
theorem row_later {W W' : World} {base : Nat} {e : TypeId} {size n : Nat} {v : Value} {xs : List Value} (h : W.ownsRow base e size v n xs) (hb : Below W.heap.size W W') : W'.ownsRow base e size v n xs :=
  row_kept h (grown_of_below hb) (fun r e => by cases e)
theorem row_base {W : World} {base b : Nat} {e : TypeId} {size n : Nat} {v : Value} {xs : List Value} (h : W.ownsRow base e size v n xs) (hb : b ≤ base) : W.ownsRow b e size v n xs := by
  refine ⟨h.1, ?_⟩
  rcases h.2 with h2 | ⟨g, cap, cur, e1, e2, e3⟩
  · exact .inl h2
  · exact .inr ⟨g, cap, cur, e1, Nat.le_trans hb e2, e3⟩
theorem grownBy_setCell_any (W : World) (b o : Nat) (v : Value) : W.grownBy (W.setCell ⟨b, o, none⟩ v) (some b) :=
  ⟨rfl, rfl, rfl, (KeepsWalks.setCell W _ v).size, fun k _ hk => Below.heap_setCell _ _ _ k (fun e => hk (by rw [e]))⟩
theorem no_cells {o : Obj} (h : o.isCells = false) (t : TypeId) : ∀ cs fz, o ≠ .cells cs t fz := by
  rintro cs fz rfl; cases h
theorem own_is {W : World} {base : Nat} {e : TypeId} {size n : Nat} {v : Value} {xs : List Value} (h : W.ownsRow base e size v n xs) (t : TypeId) (ht : t ≠ e) : ∀ r, v.ownBlock = some r → ∃ o : Obj, W.heap[r]? = some o ∧ ∀ cs fz, o ≠ .cells cs t fz := by
  intro r hr
  rcases h.2 with ⟨rfl, _⟩ | ⟨g, cap, cur, rfl, _, hgb, _⟩
  · simp [Value.ownBlock] at hr
  · obtain rfl : g = r := by simpa [Value.ownBlock] using hr
    exact ⟨_, hgb, by rintro cs fz ⟨⟩; exact ht rfl⟩
theorem box_is {W : World} {B : Nat} {t : TypeId} {v : Value} (h : Boxed W B t v) (u : TypeId) (ht : u ≠ t) : ∀ r, some B = some r → ∃ o : Obj, W.heap[r]? = some o ∧ ∀ cs fz, o ≠ .cells cs u fz := by
  intro r e
  cases e
  exact ⟨_, h, by rintro cs fz ⟨⟩; exact ht rfl⟩
theorem boxed_far {W : World} {B D : Nat} {t : TypeId} {v : Value} (h : Boxed W B t v) (hne : B ≠ D) (o : Nat) (u : Value) : Boxed (W.setCell ⟨D, o, none⟩ u) B t v := (Below.heap_setCell W ⟨D, o, none⟩ u B hne).trans h
theorem keeps_of_below {B : Nat} {W W' : World} (h : Below W.heap.size W W') : KeepsFrom B W W' :=
  ⟨h.size, fun k o _ hk _ => (h.block k (Array.getElem?_eq_some_iff.1 hk).1).trans hk⟩
theorem ownFrom_block {β : Type} (p : Nat) (cs : β → Array Value) (t : TypeId) (B : Nat) : OwnFrom B (fun (s : β) (W : World) => W.heap[p]? = some (.cells (cs s) t (0, 0))) := by
  intro s X Y row h hg hrow
  refine (hg.block p (Array.getElem?_eq_some_iff.1 h).1 (fun e => ?_)).trans h
  obtain ⟨-, o, ho, hc⟩ := hrow p e.symm
  rw [h] at ho; cases ho; cases hc
abbrev ints (l : List Int) : List Value := l.map fun x => Value.int .i64 x
/-- A row of numbers in a box at S + 1, what is read in a box at S + 2. -/
def NmIn (w : World) (xs : List Int) (tb : TypeId) (cs : Array Value) (k : Nat) (W : World) : Prop :=
  ∃ v, Boxed W (w.heap.size + 1) 28 v ∧ W.ownsRow w.heap.size 3 1 v k (ints (xs.take k)) ∧ W.heap[w.heap.size + 2]? = some (.cells cs tb (0, 0)) ∧ Below w.heap.size w W
theorem NmIn.own (w : World) (xs : List Int) (tb : TypeId) (cs : Array Value) (B : Nat) (hB : w.heap.size ≤ B) : OwnFrom B (NmIn w xs tb cs) := by
  rintro k X Y row ⟨v, h1, h2, h3, h4⟩ hg hrow
  have hrow' : ∀ r, row = some r → ∃ o : Obj, X.heap[r]? = some o ∧ o.isCells = false := fun r e => (hrow r e).2
  refine ⟨v, boxed_own (w.heap.size + 1) 28 (fun _ : Unit => v) () X Y row h1 hg hrow', row_kept h2 hg (fun r e => ?_), ownFrom_block _ (fun _ : Unit => cs) tb B () X Y row h3 hg hrow, ownFrom_below (Nat.le_refl _) hB k X Y row h4 hg hrow⟩
  obtain ⟨o, ho, hc⟩ := hrow' r e
  exact ⟨o, ho, no_cells hc 3⟩
theorem NmIn.made (w : World) (xs : List Int) (ta tb : TypeId) (ca cs : Array Value) : NmIn w xs tb cs 0 (((w.alloc (.cells ca ta)).alloc (.cells #[.slice none 0 0] 28)).alloc (.cells cs tb)) := by
  refine ⟨.slice none 0 0, ?_, by simpa using World.ownsRow_nil _ _ _ _, ?_, ((((Below.refl _ w).alloc (Nat.le_refl _) _).alloc (by simp) _).alloc (by simp; omega) _)⟩
  · have := (Boxed.new (w.alloc (.cells ca ta)) 28 (.slice none 0 0)).alloc (.cells cs tb)
    rwa [World.size_alloc] at this
  · have := World.alloc_heap_new ((w.alloc (.cells ca ta)).alloc (.cells #[.slice none 0 0] 28)) (.cells cs tb)
    simpa using this
/-- What an append brings. -/
def NmStep (w W : World) (xs : List Int) (tb t : TypeId) (cs : Array Value) (k : Nat) (v : Value) (x : Int) (B : Nat) : Prop :=
  ∀ (w1 : World) (v' : Value) (tmp : Obj), w1.ownsRow w.heap.size 3 1 v' (k + 1) (ints (xs.take k) ++ [.int .i64 x]) → (W.alloc tmp).grownBy w1 v.ownBlock →
    KeepsFrom B W (w1.setCell ⟨w.heap.size + 1, 0, none⟩ v') ∧ KeepsT t W (w1.setCell ⟨w.heap.size + 1, 0, none⟩ v') ∧ NmIn w xs tb cs (k + 1) (w1.setCell ⟨w.heap.size + 1, 0, none⟩ v')
/-- A number more. -/
theorem NmIn.next {w W : World} {xs : List Int} {tb t : TypeId} {cs : Array Value} {k : Nat} {v : Value} {x : Int}
    (hv : Boxed W (w.heap.size + 1) 28 v) (hr : W.ownsRow w.heap.size 3 1 v k (ints (xs.take k))) (hc : W.heap[w.heap.size + 2]? = some (.cells cs tb (0, 0))) (hB : Below w.heap.size w W)
    (hx : xs[k]? = some x) (h3 : t ≠ 3) (h32 : t ≠ 28) (hb3 : tb ≠ 3)
    (B : Nat) : NmStep w W xs tb t cs k v x B := by
  intro w1 v' tmp hown' hgrow
  obtain ⟨hv1, hv2, hr2, hk2, hb2⟩ := hv.appended (by decide) hr hB.size (by omega) hown' hgrow
  have hg1 : W.grownBy (W.alloc tmp) none := World.grownBy_alloc W _ none
  refine ⟨hk2.from _, ?_, v', hv2, ?_, ?_, hB.trans hb2⟩
  · exact ((KeepsT.grown hg1 (fun r e => by cases e)).trans (KeepsT.grown hgrow (own_is (hr.alloc _) t h3))).trans (KeepsT.setCell _ hv1 (Ne.symm h32))
  · rw [List.take_add_one, hx]; simpa [ints] using hr2
  · have a1 := hg1.block (w.heap.size + 2) (Array.getElem?_eq_some_iff.1 hc).1 (by simp)
    have a2 := hgrow.block (w.heap.size + 2) (by rw [World.size_alloc]; have := (Array.getElem?_eq_some_iff.1 hc).1; omega) (fun e => by
      obtain ⟨o, ho, hne⟩ := own_is (hr.alloc tmp) tb hb3 _ e.symm
      rw [a1.trans hc] at ho; cases ho; exact hne _ _ rfl)
    exact (Below.heap_setCell w1 ⟨w.heap.size + 1, 0, none⟩ v' (w.heap.size + 2) (by simp)).trans (a2.trans (a1.trans hc))
theorem Tryz.info3 : (Tryz.prog.info? 3).map (fun i => (i.zero, i.size, i.bytes)) = some (some (.int .i64 0), 1, 8) := by kernel_rfl
end Go.Proofs.YtccmnngeibpcmaaGreat.Tree
