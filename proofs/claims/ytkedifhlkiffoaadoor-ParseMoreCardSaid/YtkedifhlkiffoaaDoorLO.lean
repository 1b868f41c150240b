/-
  The standing examples of stage 7 hold: the law's wakes returns true, where the ways of comparing lie as they are laid; contract of lex.All by what its tokens are.
-/
import Derived.Test.YtkedifhlkiffoaaDoorLK
import Derived.Test.YtkedifhlkiffoaaDoorLN
namespace Go.Proofs.YtkedifhlkiffoaaDoor
open Go.ChangeShapes Go.WideShapes Go.ChangeAt Go.RowKit
set_option linter.unusedVariables false
set_option linter.unusedSimpArgs false
attribute [local go_sem] Oper.semAt_some
theorem Toks.lastOf {e : Bs} {p : Nat} {l : Bs} {ts : List (Tk × Nat)} (h : Toks e p l ts) : ∀ i x, ts[i]? = some x → textT x.1 = [] → i + 1 = ts.length := by
  induction h with
  | fin p b h1 h2 =>
    intro i x hx _
    have := (List.getElem?_eq_some_iff.1 hx).1
    simp at this ⊢; exact this
  | tok p b t r ts h1 h2 h3 ih =>
    intro i x hx h
    cases i with
    | zero =>
      obtain rfl : (t, p + b) = x := by simpa using hx
      exact absurd h h1
    | succ i => have := ih i x (by simpa using hx) h; simp; omega
theorem text6 {t : Tk} (h : t.k = 6) : textT t = [] := by unfold textT; simp [h]
theorem lexAll_ok (l : Bs) (w : World) (hl : l.length ≤ 2000) (ho : OpsAt w) (h : ∀ x ∈ toks l, x.1.k ≠ 6) :
    Calls Tryd.prog 38 #[S l] w fun e w' => ∃ v, e = .returned (.tuple #[v, .int .i64 0, .int .i64 0]) ∧ TksAt w.heap.size v (toks l) w' ∧ Below w.heap.size w w' := by
  refine (all_short l w hl ho).mono ?_
  rintro e w' (⟨_, ⟨v, rfl, hr⟩, hb⟩ | ⟨k, t, p, h1, h2, _⟩)
  · exact ⟨v, rfl, hr, hb⟩
  · exact absurd h2 (h _ (List.mem_of_getElem? h1))
theorem lexAll_bad (l : Bs) (w : World) (hl : l.length ≤ 2000) (ho : OpsAt w) (t : Tk) (p : Nat) (h : (t, p) ∈ toks l) (h6 : t.k = 6) :
    Calls Tryd.prog 38 #[S l] w fun e w' => e = .returned (.tuple #[.slice none 0 0, .int .i64 (p : Nat), .int .i64 70]) ∧ Below w.heap.size w w' := by
  refine (all_short l w hl ho).mono ?_
  rintro e w' (⟨hn, _⟩ | ⟨k, t', p', h1, h2, rfl, hb⟩)
  · exact absurd h6 (hn _ h)
  · obtain ⟨i, hi⟩ := List.mem_iff_getElem?.1 h
    obtain ⟨e, hT⟩ := toks_some l
    have e1 := hT.lastOf i _ hi (text6 h6)
    have e2 := hT.lastOf k _ h1 (text6 h2)
    obtain rfl : i = k := by omega
    rw [hi] at h1
    cases h1
    exact ⟨rfl, hb⟩
theorem Toks.step {e : Bs} {p b : Nat} {t : Tk} {x r : Bs} {ts : List (Tk × Nat)} {l' : Bs} {p' : Nat} (hx : textT t = x) (hn : x ≠ []) (ho : okNext t r.head? = true) (hp : p + b + x.length = p') (hl : bl b ++ (x ++ r) = l') (h : Toks e p' r ts) : Toks e p l' ((t, p + b) :: ts) := by
  subst hx hp hl
  exact Toks.tok p b t r ts hn ho h
theorem tx0 : textB 0 = [48] := by rw [textB_eq, if_neg (by decide)]; exact dgt_last 0 (by decide)
theorem tx1 : textB 1 = [49] := by rw [textB_eq, if_neg (by decide)]; exact dgt_last 1 (by decide)
theorem tx50 : textB 50 = [53, 48] := by rw [textB_eq, if_neg (by decide)]; show dgt 50 = _; rw [dgt_more 50 (by decide), dgt_last _ (by decide)]; decide
def wkA : Bs := [48, 97, 32, 119, 105, 116, 104, 105, 110, 32, 53, 48]
def wkAT : List (Tk × Nat) := [(⟨1, 0⟩, 0), (⟨2, 0⟩, 1), (⟨3, 0⟩, 3), (⟨1, 50⟩, 10), (⟨0, 0⟩, 12)]
theorem wkA_is : toks wkA = wkAT := by
  refine Toks.all (e := []) ?_
  refine Toks.step (b := 0) (x := [48]) (r := [97, 32, 119, 105, 116, 104, 105, 110, 32, 53, 48]) (p' := 1) (by rw [textT1, if_pos (by decide), tx0]) (by simp) (by decide) rfl rfl ?_
  refine Toks.step (b := 0) (x := [97]) (r := [32, 119, 105, 116, 104, 105, 110, 32, 53, 48]) (p' := 2) (by decide) (by simp) (by decide) rfl rfl ?_
  refine Toks.step (b := 1) (x := withinL) (r := [32, 53, 48]) (p' := 9) (by decide) (by simp [withinL]) (by decide) rfl rfl ?_
  refine Toks.step (b := 1) (x := [53, 48]) (r := []) (p' := 12) (by rw [textT1, if_pos (by decide), tx50]) (by simp) (by decide) rfl rfl ?_
  exact Toks.fin (e := []) 12 0 (by simp) rfl
def wkB : Bs := [49, 97, 32, 48, 48, 55]
theorem wkB_is : toks wkB = [(⟨1, 1⟩, 0), (⟨2, 0⟩, 1), (⟨6, 0⟩, 3)] := by
  refine Toks.all (e := [48, 48, 55]) ?_
  refine Toks.step (b := 0) (x := [49]) (r := [97, 32, 48, 48, 55]) (p' := 1) (by rw [textT1, if_pos (by decide), tx1]) (by simp) (by decide) rfl rfl ?_
  refine Toks.step (b := 0) (x := [97]) (r := [32, 48, 48, 55]) (p' := 2) (by decide) (by simp) (by decide) rfl rfl ?_
  have := Toks.fin (e := [48, 48, 55]) 2 1 (by decide) (by decide)
  rwa [show firstT [48, 48, 55] = ⟨6, 0⟩ by decide] at this
def wkC : Bs := [33, 33, 61, 60, 61]
def wkCT : List (Tk × Nat) := [(⟨5, 33⟩, 0), (⟨4, 4⟩, 1), (⟨4, 2⟩, 3), (⟨0, 0⟩, 5)]
theorem wkC_is : toks wkC = wkCT := by
  refine Toks.all (e := []) ?_
  refine Toks.step (b := 0) (x := [33]) (r := [33, 61, 60, 61]) (p' := 1) (by decide) (by simp) (by decide) rfl rfl ?_
  refine Toks.step (b := 0) (x := [33, 61]) (r := [60, 61]) (p' := 3) (by decide) (by simp) (by decide) rfl rfl ?_
  refine Toks.step (b := 0) (x := [60, 61]) (r := []) (p' := 5) (by decide) (by simp) (by decide) rfl rfl ?_
  exact Toks.fin (e := []) 5 0 (by simp) rfl
theorem tks_some {W : World} {base : Nat} {v : Value} {ts : List (Tk × Nat)} (h : TksAt base v ts W) (h0 : 0 < ts.length) : ∃ g c, v = .slice (some ⟨g, 0, none⟩) ts.length c := by
  rcases tks_shape h with ⟨_, rfl⟩ | h
  · cases h0
  · exact h
theorem lexText_as (k n p : Int) (x : Bs) (hx : textT ⟨k, n⟩ = x) (w : World) (ho : OpsAt w) (hf : fits n = true) : Calls Tryd.prog 90 #[.agg #[.int .u8 k, .int .i64 n, .int .i64 p]] w fun e w' => e = .returned (S x) ∧ Below w.heap.size w w' := by
  subst hx
  exact lexText_any ⟨k, n⟩ p w ho hf
theorem bcell {w w' : World} (h : Below w.heap.size w w') {g i : Nat} {v : Value} (hc : w.cell? ⟨g, i, none⟩ = some v) : w'.cell? ⟨g, i, none⟩ = some v := (h.cell (p := ⟨g, i, none⟩) (World.block_lt_of_cell? w _ hc)).trans hc
end Go.Proofs.YtkedifhlkiffoaaDoor
