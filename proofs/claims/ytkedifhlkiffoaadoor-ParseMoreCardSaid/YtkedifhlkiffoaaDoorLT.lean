/-
  A range over a function whose iterator tells a row that is known place by place and reads memory between two rounds, and whose rounds lay their own boxes; no condition.
-/
import Derived.Test.YtkedifhlkiffoaaDoorLG
import Derived.Test.YtkedifhlkiffoaaDoorLH
import Derived.RangeFuncNested
import Derived.RangeFuncBound
import Derived.RangeFuncCalls
import Derived.RangeFuncLeaves
import Derived.Sort.QuietIn
import Derived.Sort.CutIn
import Derived.BigQuiet
namespace Go.Proofs.YtkedifhlkiffoaaDoor
open Go.RowKit
set_option linter.unusedVariables false

variable {F : Fence} {n : Nat} {P : Program}

/-- How the body may be left at a place. -/
def rowPost (B : Nat) (I : Nat → World → Prop) (Ix : Code → World → Prop) (k : Nat) (W : World) : Exit → Act → World → Prop
  | .normal, _, W' => KeepsFrom B W W' ∧ I k W'
  | .ret, _, W' => KeepsFrom B W W' ∧ Ix .ret W'
  | .exit id, _, W' => KeepsFrom B W W' ∧ Ix (.exit id) W'
  | .goto t, _, W' => KeepsFrom B W W' ∧ Ix (.goto t) W'
  | .panic _, _, _ => False
  | .outgrown, _, _ => False

theorem grown_of_below {W W' : World} (h : Below W.heap.size W W') : W.grownBy W' none := ⟨h.os, h.tape, h.output, h.size, fun k hk _ => h.block k hk⟩
/-- The iterator gf at lb tells just the rows xs, in this order, until a round says no more (st: whether one may), as long as Kp is kept between two rounds. -/
def TellsRowB (st : Prop) (F : Fence) (n : Nat) (P : Program) (gf : Nat) (lb : Array Value) (Kp : World → Prop) (xs : List (Array Value)) (w : World) : Prop :=
  ∀ (l : Nat) (J Jx : Nat → World → Prop) (W : World), Below w.heap.size w W → (∀ k W1, J k W1 → Kp W1) → (∀ k W1 W2, J k W1 → Below W1.heap.size W1 W2 → J k W2) →
    (∀ k, k < xs.length → ∀ W1, J k W1 → YieldAt F (n - 1) P l (xs[k]?.getD #[]) W1 fun e W' =>
      (e = .returned (.bool true) ∧ J (k + 1) W') ∨ (st ∧ e = .returned (.bool false) ∧ Jx (k + 1) W')) →
    J 0 W →
    CallsIn F n P gf (#[.func (.yield l) #[] #[]] ++ lb) W fun e W' => (∃ v, e = .returned v) ∧ (J xs.length W' ∨ ∃ k, Jx k W')

theorem wpIn_rangeFunc_rowB {g : Operand} {ps : Array Tmp} {assign body : Code} {Q : Exit → Act → World → Prop} {a : Act} {w : World}
    (hro : F.round = none) (h1 : 1 ≤ n) {gf : Nat} {lb : Array Value} (hg : a.eval g = .func (.func gf) #[] lb) (hFg : F.fn gf) (eg : ∀ args w, (callFunc gf args).run P w = .ok (.enter gf args) w)
    {st : Prop} {Kp : World → Prop} {xs : List (Array Value)} {w0 : World} (hseq : TellsRowB st F (n - 1) P gf lb Kp xs w0) (hb0 : Below w0.heap.size w0 w) (hps : ∀ k, k < xs.length → (xs[k]?.getD #[]).size = ps.size)
    (I : Nat → World → Prop) (Ix : Code → World → Prop) (hI : OwnFrom w.heap.size I) (hIx : OwnFrom w.heap.size Ix) (hKp : ∀ k W, I k W → Kp W) (hst : ∀ c W, Ix c W → st) (h0 : I 0 w)
    (Ax : Nat → Act → World → Prop) (hAx : ∀ k a', OwnFrom w.heap.size (fun (_ : Unit) W => Ax k a' W))
    (hassign : ∀ (l k : Nat) (W : World) (K : Act → World → Prop), k < xs.length → I k W → (∀ a' W', KeepsFrom w.heap.size W W' → I k W' → Ax k a' W' → K a' W') →
      assign.wpIn (F.inRound l) (n - 1 - 1) P (Exit.then K (fun _ _ _ => False)) { tmps := (ps.zip (xs[k]?.getD #[])).foldl (fun t (p, v) => t.setIfInBounds p v) a.tmps, defers := [] } W)
    (hbody : ∀ (l k : Nat) (a' : Act) (W : World), k < xs.length → I k W → Ax k a' W → body.wpIn (F.inRound l) (n - 1 - 1) P (rowPost w.heap.size I Ix (k + 1) W) a' W)
    (hdone : ∀ (D : Nat) (W : World), w.heap.size ≤ D → I xs.length W → W.heap[D]? = some (.deferred (some [])) → Q .normal { a with defers := { target := .collected D, args := #[] } :: a.defers } W)
    (hstop : ∀ (D : Nat) (c : Code) (W : World), w.heap.size ≤ D → Ix c W → W.heap[D]? = some (.deferred (some [])) → c.wpIn F n P Q { a with defers := { target := .collected D, args := #[] } :: a.defers } W) :
    (Code.rangeFunc g ps assign body).wpIn F n P Q a w := by
  refine wpIn_rangeFunc fun fn hfn => ?_
  rw [hro]
  have hD : (w.alloc (.deferred (some []))).heap[w.heap.size]? = some (.deferred (some [])) := World.alloc_heap_new w _
  generalize hlp : (fun st pe => ({ state := st, pending := pe, fn, tmps := a.tmps, params := ps, assign, body, defers := w.heap.size } : Loop)) = lp
  have hlpe : ∀ st pe, lp st pe = { state := st, pending := pe, fn, tmps := a.tmps, params := ps, assign, body, defers := w.heap.size } := fun st pe => by rw [← hlp]
  have hrun := run_enterLoop_outer (P := P) (w := w) fn a.tmps ps assign body
  rw [← hlpe .ready none] at hrun
  have hbel : Below w0.heap.size w0 ((w.alloc (.deferred (some []))).alloc (.loop (lp .ready none))) :=
    hb0.trans ((((Below.refl _ w).alloc (Nat.le_refl _) _).alloc (by simp) _).mono hb0.size)
  have hl0 : ((w.alloc (.deferred (some []))).alloc (.loop (lp .ready none))).heap[w.heap.size + 1]? = some (.loop (lp .ready none)) := by
    have := World.alloc_heap_new (w.alloc (.deferred (some []))) (.loop (lp .ready none)); rwa [World.size_alloc] at this
  have hd0 : ((w.alloc (.deferred (some []))).alloc (.loop (lp .ready none))).heap[w.heap.size]? = some (.deferred (some [])) := (Below.heap_alloc _ _ _ (by simp)).trans hD
  have hi0 : I 0 ((w.alloc (.deferred (some []))).alloc (.loop (lp .ready none))) := hI.alloc _ (hI.alloc _ h0)
  clear hD
  generalize (w.alloc (.deferred (some []))).alloc (.loop (lp .ready none)) = V at *
  refine ⟨w.heap.size + 1, [{ target := .collected w.heap.size, args := #[] }], V, { target := .fn (.func gf) lb, args := #[.func (.yield (w.heap.size + 1)) #[] #[]] }, V, gf,
    #[.func (.yield (w.heap.size + 1)) #[] #[]] ++ lb, V, hrun, ?_, ?_, ?_, fun _ => h1, ?_⟩
  · simp only [resolve, hg]
    simp [go_sem]
  · intro f' hf'
    simp [Target.leads] at hf'
    exact hf' ▸ hFg
  · simp [invoke, go_sem, eg]
  refine (hseq (w.heap.size + 1)
    (fun k W => I k W ∧ W.heap[w.heap.size + 1]? = some (.loop (lp .ready none)) ∧ W.heap[w.heap.size]? = some (.deferred (some [])))
    (fun _ W => ∃ c, Ix c W ∧ W.heap[w.heap.size + 1]? = some (.loop (lp .done (some c))) ∧ W.heap[w.heap.size]? = some (.deferred (some [])))
    V hbel (fun k W h => hKp k W h.1) (fun k W W2 h hb => ⟨hI k W W2 none h.1 (grown_of_below hb) (fun r e => by cases e), (hb.block _ (Array.getElem?_eq_some_iff.1 h.2.1).1).trans h.2.1, (hb.block _ (Array.getElem?_eq_some_iff.1 h.2.2).1).trans h.2.2⟩) ?round ⟨hi0, hl0, hd0⟩).mono ?behind
  case round =>
    rintro k hk W0 ⟨hi, hl, hd⟩
    have hy := run_yield (P := P) (args := xs[k]?.getD #[]) hl (by rw [hlpe]; exact hps k hk)
    rw [hlpe] at hy
    refine ⟨fn, _, assign, body, hy, roundIn_of_wpIn hfn (hassign _ k W0 _ hk hi ?_)⟩
    intro a' W hkf hia hax
    replace hl := hkf.same _ _ (by omega) hl rfl
    replace hd := hkf.same _ _ (Nat.le_refl _) hd rfl
    clear hi hkf hy
    have hi := hia
    refine ⟨_, run_beginRound hl (by rw [hlpe]), ?_⟩
    have hlt := (Array.getElem?_eq_some_iff.1 hl).1
    have hl' := World.putObj_heap_same (w := W) (o := .loop { lp .ready none with state := .busy }) hlt
    have hd' : (W.putObj (w.heap.size + 1) (.loop { lp .ready none with state := .busy })).heap[w.heap.size]? = some (.deferred (some [])) := (World.putObj_heap_other (by omega)).trans hd
    have hi' := hI.putObj (.loop { lp .ready none with state := .busy }) hi (by omega) hl rfl
    have hax' := (hAx k a').putObj (s := ()) (.loop { lp .ready none with state := .busy }) hax (by omega) hl rfl
    generalize W.putObj (w.heap.size + 1) (.loop { lp .ready none with state := .busy }) = W2 at *
    -- the round's end: the record is laid anew, the rest stays
    have ends : ∀ (jump : Option Code) (W3 : World), KeepsFrom w.heap.size W2 W3 → ∃ W4, (Instr.endRound (w.heap.size + 1) jump).run P W3 = .ok (.bool jump.isNone) W4 ∧
        W4.heap[w.heap.size + 1]? = some (.loop (lp (if jump.isNone then .ready else .done) jump)) ∧ W4.heap[w.heap.size]? = some (.deferred (some [])) ∧
        (∀ k, I k W3 → I k W4) ∧ (∀ c, Ix c W3 → Ix c W4) := fun jump W3 hk3 => by
      have h3 := hk3.same _ _ (by omega) hl' rfl
      have h3d := hk3.same _ _ (Nat.le_refl _) hd' rfl
      have hr := run_endRound (P := P) jump h3
      refine ⟨_, hr, ?_, (World.putObj_heap_other (by omega)).trans h3d, fun k h => hI.putObj _ h (by omega) h3 rfl, fun c h => hIx.putObj _ h (by omega) h3 rfl⟩
      rw [World.putObj_heap_same (Array.getElem?_eq_some_iff.1 h3).1, hlpe, hlpe]
    refine wpIn_mono (hbody _ k a' W2 hk hi' hax') ?_
    rintro e a3 W3 hp
    cases e with
    | normal => obtain ⟨W4, hr, hl4, hd4, hI4, _⟩ := ends none W3 hp.1; exact ⟨_, _, hr, .inl ⟨rfl, hI4 _ hp.2, hl4, hd4⟩⟩
    | ret => obtain ⟨W4, hr, hl4, hd4, _, hX4⟩ := ends (some .ret) W3 hp.1; exact ⟨_, _, hr, .inr ⟨hst _ _ hp.2, rfl, _, hX4 _ hp.2, hl4, hd4⟩⟩
    | exit id => obtain ⟨W4, hr, hl4, hd4, _, hX4⟩ := ends (some (.exit id)) W3 hp.1; exact ⟨_, _, hr, .inr ⟨hst _ _ hp.2, rfl, _, hX4 _ hp.2, hl4, hd4⟩⟩
    | goto t => obtain ⟨W4, hr, hl4, hd4, _, hX4⟩ := ends (some (.goto t)) W3 hp.1; exact ⟨_, _, hr, .inr ⟨hst _ _ hp.2, rfl, _, hX4 _ hp.2, hl4, hd4⟩⟩
    | panic ch => exact hp.elim
    | outgrown => exact hp.elim
  case behind =>
    rintro e W2 ⟨⟨v, rfl⟩, ⟨hi, hl, hd⟩ | ⟨_, c, hi, hl, hd⟩⟩
    · have hr := run_endLoop (P := P) hl (by rw [hlpe]; simp)
      rw [hlpe] at hr
      exact ⟨none, _, hr, hdone _ _ (Nat.le_refl _) (hI.putObj _ hi (by omega) hl rfl) ((World.putObj_heap_other (by omega)).trans hd)⟩
    · have hr := run_endLoop (P := P) hl (by rw [hlpe]; simp)
      rw [hlpe] at hr
      exact ⟨some c, _, hr, hstop _ c _ (Nat.le_refl _) (hIx.putObj _ hi (by omega) hl rfl) ((World.putObj_heap_other (by omega)).trans hd)⟩
end Go.Proofs.YtkedifhlkiffoaaDoor
