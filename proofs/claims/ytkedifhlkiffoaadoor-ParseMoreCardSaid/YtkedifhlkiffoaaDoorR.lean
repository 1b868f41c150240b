/-
  Several texts in one: RA RB RC RD RE RG RH RI RJ RK RM RN RO RP RQ RR RS RT RU RV RW RX RY RZ RAD RF RAH.
-/
import Derived.Test.YtkedifhlkiffoaaDoorRows
import Derived.WalkKit
import Derived.ProofKit
import Derived.OpenShut
import Derived.Below
import Derived.IntWalk
import Derived.Lib.Hide
import Derived.BigQuiet
import Derived.Deep.QuietTactic
import Derived.WalkMore
import Derived.ScopeJumps
import Derived.RangeFuncRecord
import Derived.Laws.ResultCell
import Derived.Deep.RegionWith
import Derived.Laws.StructEq
import Derived.RangeFuncNested
import Derived.RangeFuncBound
import Derived.RangeFuncCalls
import Derived.RangeFuncLeaves
import Derived.Sort.QuietIn
import Derived.Sort.CutIn
import Derived.RangeFuncFrom
import Derived.RangeFuncKeeps
import Derived.Maps.AppendAt
import Derived.OwnWalkIn
import Derived.Shelf.Abstract
import Derived.Deep.RegionLaw
import Derived.Deep.AppendLies
import Derived.Laws.OwnMore
import Derived.Laws.AppendOwnNone
import Derived.Deep.RegionHeld3
/- Terms, comparisons, steps and patterns as Lean data, and where they lie in memory. -/
namespace Go.Proofs.YtkedifhlkiffoaaDoor.Tree
open Go.ChangeShapes Go.WideShapes Go.ChangeAt Go.RowKit
set_option linter.unusedVariables false
set_option linter.unusedSimpArgs false
/-- A term. -/
structure Tm where
  k : Int
  n : Int
  s : Int
  r : Int
deriving DecidableEq
/-- A comparison. -/
structure Cp where
  op : Int
  l : Tm
  r : Tm
deriving DecidableEq
/-- A step. -/
structure Sp where
  neg : Bool
  kind : Int
  min : Int
  max : Int
  strict : Bool
  cs : List Cp
deriving DecidableEq
instance : Inhabited Tm := ⟨⟨0, 0, 0, 0⟩⟩
instance : Inhabited Cp := ⟨⟨0, default, default⟩⟩
instance : Inhabited Sp := ⟨⟨false, 0, 0, 0, false, []⟩⟩
abbrev tmV (t : Tm) : Value := .agg #[.int .u8 t.k, .int .i64 t.n, .int .i64 t.s, .int .i64 t.r]
abbrev cpV (c : Cp) : Value := .agg #[.int .u8 c.op, .int .u8 c.l.k, .int .i64 c.l.n, .int .i64 c.l.s, .int .i64 c.l.r, .int .u8 c.r.k, .int .i64 c.r.n, .int .i64 c.r.s, .int .i64 c.r.r]
abbrev spV (s : Sp) (v : Value) : Value := .agg #[.bool s.neg, .int .i64 s.kind, .int .i64 s.min, .int .i64 s.max, .bool s.strict, v]
abbrev ptV (v : Value) (win : Int) : Value := .agg #[v, .int .i64 win]
def cpsCells (cs : List Cp) : List Value := cs.flatMap fun c => [.int .u8 c.op, .int .u8 c.l.k, .int .i64 c.l.n, .int .i64 c.l.s, .int .i64 c.l.r, .int .u8 c.r.k, .int .i64 c.r.n, .int .i64 c.r.s, .int .i64 c.r.r]
def spsCells (L : List (Sp × Value)) : List Value := L.flatMap fun x => [.bool x.1.neg, .int .i64 x.1.kind, .int .i64 x.1.min, .int .i64 x.1.max, .bool x.1.strict, x.2]
/-- These cells lie at a (nowhere, if there are none). -/
def CellsAt (w : World) (a : Option Addr) (xs : List Value) : Prop := xs = [] ∨ ∃ b o, a = some ⟨b, o, none⟩ ∧ ∀ (j : Nat) u, xs[j]? = some u → w.cell? ⟨b, o + j, none⟩ = some u
theorem CellsAt.later {w w' : World} {a : Option Addr} {xs : List Value} (h : CellsAt w a xs) (hb : Below w.heap.size w w') : CellsAt w' a xs := by
  rcases h with h | ⟨b, o, rfl, h⟩
  · exact .inl h
  · exact .inr ⟨b, o, rfl, fun j u hj => by
      have := h j u hj
      exact (hb.cell (World.block_lt_of_cell? w _ this)).trans this⟩
/-- Comparisons in memory. -/
def CpsAt (w : World) (v : Value) (cs : List Cp) : Prop := ∃ a c, v = .slice a cs.length c ∧ CellsAt w a (cpsCells cs)
/-- Steps in memory, with the slices of their comparisons. -/
def SpsL (w : World) (v : Value) (L : List (Sp × Value)) : Prop := (∃ a c, v = .slice a L.length c ∧ CellsAt w a (spsCells L)) ∧ ∀ x ∈ L, CpsAt w x.2 x.1.cs
def SpsAt (w : World) (v : Value) (ss : List Sp) : Prop := ∃ L : List (Sp × Value), L.map (·.1) = ss ∧ SpsL w v L
theorem CpsAt.later {w w' : World} {v : Value} {cs : List Cp} (h : CpsAt w v cs) (hb : Below w.heap.size w w') : CpsAt w' v cs := by
  obtain ⟨a, c, e, h⟩ := h; exact ⟨a, c, e, h.later hb⟩
theorem SpsL.later {w w' : World} {v : Value} {L : List (Sp × Value)} (h : SpsL w v L) (hb : Below w.heap.size w w') : SpsL w' v L := by
  obtain ⟨⟨a, c, e, h⟩, h2⟩ := h; exact ⟨⟨a, c, e, h.later hb⟩, fun x hx => (h2 x hx).later hb⟩
theorem SpsAt.later {w w' : World} {v : Value} {ss : List Sp} (h : SpsAt w v ss) (hb : Below w.heap.size w w') : SpsAt w' v ss := by
  obtain ⟨L, e, h⟩ := h; exact ⟨L, e, h.later hb⟩
theorem flat_at {α : Type} (k : Nat) (f : α → List Value) (hf : ∀ x, (f x).length = k) (l : List α) (i : Nat) (x : α) (h : l[i]? = some x) (j : Nat) (hj : j < k) : (l.flatMap f)[i * k + j]? = (f x)[j]? := by
  induction l generalizing i with
  | nil => simp at h
  | cons y r ih =>
    rw [List.flatMap_cons]
    cases i with
    | zero =>
      simp at h; subst h
      rw [Nat.zero_mul, Nat.zero_add, List.getElem?_append_left (by rw [hf]; exact hj)]
    | succ i =>
      rw [List.getElem?_append_right (by rw [hf, Nat.succ_mul]; omega), hf, show (i + 1) * k + j - k = i * k + j by rw [Nat.succ_mul]; omega]
      exact ih i (by simpa using h)
/-- A step of a row: its cells. -/
theorem sps_cell {w : World} {a : Option Addr} {L : List (Sp × Value)} (h : CellsAt w a (spsCells L)) {i : Nat} {x : Sp × Value} (hx : L[i]? = some x) :
    ∃ b o, a = some ⟨b, o, none⟩ ∧ w.cell? ⟨b, o + i * 6, none⟩ = some (.bool x.1.neg) ∧ w.cell? ⟨b, o + i * 6 + 1, none⟩ = some (.int .i64 x.1.kind) ∧ w.cell? ⟨b, o + i * 6 + 2, none⟩ = some (.int .i64 x.1.min) ∧
      w.cell? ⟨b, o + i * 6 + 3, none⟩ = some (.int .i64 x.1.max) ∧ w.cell? ⟨b, o + i * 6 + 4, none⟩ = some (.bool x.1.strict) ∧ w.cell? ⟨b, o + i * 6 + 5, none⟩ = some x.2 := by
  have H := fun j hj => flat_at 6 (fun x : Sp × Value => [Value.bool x.1.neg, .int .i64 x.1.kind, .int .i64 x.1.min, .int .i64 x.1.max, .bool x.1.strict, x.2]) (fun _ => rfl) L i x hx j hj
  rcases h with h | ⟨b, o, rfl, h⟩
  · have := H 0 (by omega)
    rw [show (L.flatMap fun x : Sp × Value => [Value.bool x.1.neg, .int .i64 x.1.kind, .int .i64 x.1.min, .int .i64 x.1.max, .bool x.1.strict, x.2]) = [] from h] at this
    simp at this
  · exact ⟨b, o, rfl, h _ _ (H 0 (by omega)), h _ _ (H 1 (by omega)), h _ _ (H 2 (by omega)), h _ _ (H 3 (by omega)), h _ _ (H 4 (by omega)), h _ _ (H 5 (by omega))⟩
/-- A comparison of a row: its cells. -/
theorem cps_cell {w : World} {a : Option Addr} {cs : List Cp} (h : CellsAt w a (cpsCells cs)) {i : Nat} {x : Cp} (hx : cs[i]? = some x) :
    ∃ b o, a = some ⟨b, o, none⟩ ∧ w.cell? ⟨b, o + i * 9, none⟩ = some (.int .u8 x.op) ∧ w.cell? ⟨b, o + i * 9 + 1, none⟩ = some (.int .u8 x.l.k) ∧ w.cell? ⟨b, o + i * 9 + 2, none⟩ = some (.int .i64 x.l.n) ∧
      w.cell? ⟨b, o + i * 9 + 3, none⟩ = some (.int .i64 x.l.s) ∧ w.cell? ⟨b, o + i * 9 + 4, none⟩ = some (.int .i64 x.l.r) ∧ w.cell? ⟨b, o + i * 9 + 5, none⟩ = some (.int .u8 x.r.k) ∧
      w.cell? ⟨b, o + i * 9 + 6, none⟩ = some (.int .i64 x.r.n) ∧ w.cell? ⟨b, o + i * 9 + 7, none⟩ = some (.int .i64 x.r.s) ∧ w.cell? ⟨b, o + i * 9 + 8, none⟩ = some (.int .i64 x.r.r) := by
  have H := fun j hj => flat_at 9 (fun c : Cp => [Value.int .u8 c.op, .int .u8 c.l.k, .int .i64 c.l.n, .int .i64 c.l.s, .int .i64 c.l.r, .int .u8 c.r.k, .int .i64 c.r.n, .int .i64 c.r.s, .int .i64 c.r.r]) (fun _ => rfl) cs i x hx j hj
  rcases h with h | ⟨b, o, rfl, h⟩
  · have := H 0 (by omega)
    rw [show (cs.flatMap fun c : Cp => [Value.int .u8 c.op, .int .u8 c.l.k, .int .i64 c.l.n, .int .i64 c.l.s, .int .i64 c.l.r, .int .u8 c.r.k, .int .i64 c.r.n, .int .i64 c.r.s, .int .i64 c.r.r]) = [] from h] at this
    simp at this
  · exact ⟨b, o, rfl, h _ _ (H 0 (by omega)), h _ _ (H 1 (by omega)), h _ _ (H 2 (by omega)), h _ _ (H 3 (by omega)), h _ _ (H 4 (by omega)), h _ _ (H 5 (by omega)), h _ _ (H 6 (by omega)), h _ _ (H 7 (by omega)), h _ _ (H 8 (by omega))⟩
theorem jump_ret {l : Nat} {J : Act → World → Prop} {Q : Exit → Act → World → Prop} {a : Act} {w : World} : Exit.jump l J Q .ret a w = Q .ret a w := rfl
theorem jump_normal {l : Nat} {J : Act → World → Prop} {Q : Exit → Act → World → Prop} {a : Act} {w : World} : Exit.jump l J Q .normal a w = Q .normal a w := rfl
theorem bcell {w w' : World} {k : Nat} {a : Addr} {v : Value} (h : Below k w w') (hk : a.block < k) (hc : w.cell? a = some v) : w'.cell? a = some v := (h.cell hk).trans hc
/-- Patterns that are too great to be asked. -/
def great (ss : List Sp) : Bool := (ss.take 41).any (fun s => decide (20 < s.cs.length)) || decide (40 < ss.length)
end Go.Proofs.YtkedifhlkiffoaaDoor.Tree
/- Contract of the document's own Great at any pattern. -/
namespace Go.Proofs.YtkedifhlkiffoaaDoor.Tree
open Go.ChangeShapes Go.WideShapes Go.ChangeAt Go.RowKit
set_option linter.unusedVariables false
set_option linter.unusedSimpArgs false
theorem great_yes {ss : List Sp} {i : Nat} {s : Sp} (h : ss[i]? = some s) (hi : i ≤ 40) (hs : 20 < s.cs.length) : great ss = true := by
  unfold great
  have : (ss.take 41).any (fun s => decide (20 < s.cs.length)) = true := by
    rw [List.any_eq_true]
    refine ⟨s, ?_, by simpa using hs⟩
    rw [List.mem_iff_getElem?]
    exact ⟨i, by rw [List.getElem?_take_of_lt (by omega)]; exact h⟩
  rw [this]; rfl
theorem great_end {ss : List Sp} {i : Nat} (hi : i = ss.length ∨ 40 < i) (hall : ∀ j s, j < i → ss[j]? = some s → s.cs.length ≤ 20) : great ss = decide (40 < ss.length) := by
  unfold great
  have : (ss.take 41).any (fun s => decide (20 < s.cs.length)) = false := by
    rw [List.any_eq_false]
    intro s hs
    obtain ⟨j, hj⟩ := List.mem_iff_getElem?.1 hs
    have hj41 : j < 41 := by
      have := (List.getElem?_eq_some_iff.1 hj).1
      rw [List.length_take] at this; omega
    rw [List.getElem?_take_of_lt hj41] at hj
    have hjl := (List.getElem?_eq_some_iff.1 hj).1
    have := hall j s (by omega) hj
    simpa using this
  rw [this]; rfl
/-- A pattern in a box. -/
def PtBox (p : Nat) (v : Value) (win : Int) (w : World) : Prop := w.heap[p]? = some (.cells #[v, .int .i64 win] 25 (0, 0))
theorem PtBox.new (w : World) (v : Value) (win : Int) : PtBox w.heap.size v win (w.alloc (.cells #[v, .int .i64 win] 25)) := World.alloc_heap_new w _
theorem PtBox.lt {p : Nat} {v : Value} {win : Int} {w : World} (h : PtBox p v win w) : p < w.heap.size := (Array.getElem?_eq_some_iff.1 h).1
theorem PtBox.later {p : Nat} {v : Value} {win : Int} {w w' : World} (h : PtBox p v win w) (hb : Below w.heap.size w w') : PtBox p v win w' := (hb.block _ h.lt).trans h
theorem PtBox.c0 {p : Nat} {v : Value} {win : Int} {w : World} (h : PtBox p v win w) : w.cell? ⟨p, 0, none⟩ = some v := by unfold PtBox at h; simp [World.cell?, h]
theorem PtBox.c1 {p : Nat} {v : Value} {win : Int} {w : World} (h : PtBox p v win w) : w.cell? ⟨p, 1, none⟩ = some (.int .i64 win) := by unfold PtBox at h; simp [World.cell?, h]
theorem sps_i {L : List (Sp × Value)} {i : Nat} (h : i < L.length) : ∃ x, L[i]? = some x := ⟨_, List.getElem?_eq_getElem h⟩
set_option maxRecDepth 100000 in
set_option maxHeartbeats 1000000 in
theorem great_L (a : Option Addr) (c : Nat) (L : List (Sp × Value)) (win : Int) (w : World) (hL : L.length ≤ 140737488351232) (h : SpsL w (.slice a L.length c) L) :
    Calls Tryd.prog 22 #[ptV (.slice a L.length c) win] w fun e w' => e = .returned (.bool (great (L.map (·.1)))) ∧ Below w.heap.size w w' := by
  have hb := (Below.refl w.heap.size w).alloc (Nat.le_refl _) (.cells #[.slice a L.length c, .int .i64 win] 25)
  have hp := PtBox.new w (.slice a L.length c) win
  replace h := h.later hb
  go_enter Tryd.func22, Tryd.ntmps22
  go_wp2
  generalize w.alloc (.cells #[.slice a L.length c, .int .i64 win] 25) = w0 at *
  obtain ⟨⟨a', c', e, hc⟩, hcs⟩ := h
  obtain ⟨rfl, rfl⟩ : a = a' ∧ c = c' := by cases e; exact ⟨rfl, rfl⟩
  clear e
  have k0 := hp.c0
  obtain ⟨B, hB⟩ : ∃ B, w.heap.size = B := ⟨_, rfl⟩
  rw [hB] at hb k0 ⊢
  have hB' := Lib.hid hB
  clear hB
  obtain ⟨n, hn⟩ : ∃ n, L.length = n := ⟨_, rfl⟩
  rw [hn] at hL k0
  have hn' := Lib.hid hn
  clear hp hn
  replace hc := Lib.hid hc
  replace hcs := Lib.hid hcs
  replace hb := Lib.hid hb
  have hL' := Lib.hid hL
  have hlm : Hid ((L.map (·.1)).length = n) := by show _ = _; rw [List.length_map]; exact hn'.out
  go_loopw [3] (fun t wr => ∃ i : Nat, i ≤ n ∧ i ≤ 41 ∧ t = .int .i64 i ∧ wr = w0 ∧ Hid (∀ j s, j < i → (L.map (·.1))[j]? = some s → s.cs.length ≤ 20)) (fun t _ => n - (intOf t).toNat)
  case atStart => exact ⟨0, Nat.zero_le _, Nat.zero_le _, rfl, rfl, fun j s hj => by omega⟩
  case round =>
    obtain ⟨i, hi, hi41, rfl, rfl, hall⟩ := hrel
    by_cases hlt : i < n ∧ i ≤ 40
    · obtain ⟨hlt, h40⟩ := hlt
      obtain ⟨x, hx⟩ := sps_i (L := L) (i := i) (by rw [hn'.out]; exact hlt)
      obtain ⟨b, o, rfl, z0, z1, z2, z3, z4, z5⟩ := sps_cell hc.out hx
      obtain ⟨⟨s, v⟩, rfl⟩ : ∃ y, x = y := ⟨_, rfl⟩
      obtain ⟨a2, c2, hv, hcc⟩ := hcs.out _ (List.mem_of_getElem? hx)
      dsimp only at z0 z1 z2 z3 z4 z5 hv hcc
      subst hv
      have hsm : Hid ((L.map (·.1))[i]? = some s) := by show _ = _; rw [List.getElem?_map, hx]; rfl
      have hG := Lib.hid (great_yes hsm.out h40)
      have hlti : (i : Int) < n := by omega
      have h40i : (i : Int) ≤ 40 := by omega
      clear hx hcc
      by_cases hg : 20 < s.cs.length
      · have hr := hG.out hg
        have hgi : (20 : Int) < s.cs.length := by omega
        clear hG
        go_wp2_with fail
        go_ret
        exact ⟨congrArg (fun z => Ending.returned (.bool z)) hr.symm, by rw [hB'.out]; exact hb.out⟩
      · have hgi : ¬ (20 : Int) < s.cs.length := by omega
        clear hG
        have hall' : Hid (∀ j s, j < i + 1 → (L.map (·.1))[j]? = some s → s.cs.length ≤ 20) := fun j s' hj hs' => by
          by_cases hji : j = i
          · subst hji; have := hsm.out; rw [this] at hs'; cases hs'; omega
          · exact hall.out j s' (by omega) hs'
        go_wp2_with fail
        exact ⟨⟨i + 1, by omega, by omega, by go_num, trivial, hall'⟩, by simp [intOf]; omega⟩
    · have hr : Hid (great (L.map (·.1)) = decide (40 < (n : Int))) := by
        show _ = _
        rw [great_end (i := i) (by rw [hlm.out]; omega) hall.out, hlm.out]
        congr 1
        exact propext (by omega)
      have hgi : Hid ((i : Int) = n ∨ (40 : Int) < i) := by show _ ∨ _; omega
      clear hall
      by_cases hin : i < n
      · have hi1 : (i : Int) < n := by omega
        have hi2 : ¬ (i : Int) ≤ 40 := by omega
        have hi3 : Hid (decide ((40 : Int) < n) = true) := by show _ = _; simp; omega
        go_wp2_with fail
        go_ret
        exact ⟨congrArg (fun z => Ending.returned (.bool z)) hr.out.symm, by rw [hB'.out]; exact hb.out⟩
      · have hi1 : ¬ (i : Int) < n := by omega
        go_wp2_with fail
        go_ret
        exact ⟨congrArg (fun z => Ending.returned (.bool z)) hr.out.symm, by rw [hB'.out]; exact hb.out⟩
end Go.Proofs.YtkedifhlkiffoaaDoor.Tree
/- What may be written, names, lengths and sizes, as Lean functions; contracts of number, upTo, term, howMany, unnamed, within, longer. -/
namespace Go.Proofs.YtkedifhlkiffoaaDoor.Tree
open Go.ChangeShapes Go.WideShapes Go.ChangeAt Go.RowKit
set_option linter.unusedVariables false
set_option linter.unusedSimpArgs false
attribute [local go_sem] Oper.semAt_some
/-- Is it from 0 to the greatest number? -/
def nbr (n : Int) : Bool := decide (0 ≤ n) && decide (n ≤ 1099511627776)
def rightT (t : Tm) : Bool := decide (t.k < 7 ∧ -1099511627776 ≤ t.n ∧ t.n ≤ 1099511627776 ∧ 0 ≤ t.s ∧ t.s < 26 ∧ 0 ≤ t.r ∧ t.r < 26 ∧ (t.k ≠ 0 ∨ t.s = 0) ∧ (t.k = 5 ∨ t.k = 6 ∨ t.r = 0))
def rightC (c : Cp) : Bool := decide (1 ≤ c.op) && decide (c.op < 7) && rightT c.l && rightT c.r
def rightS (s : Sp) : Bool := nbr s.kind && nbr s.min && nbr s.max && s.cs.all rightC
def rightP (ss : List Sp) (win : Int) : Bool := decide (1 ≤ ss.length) && decide (ss.length ≤ 26) && nbr win && ss.all rightS
def namesT (t : Tm) : List Int := if t.k = 0 then [] else if t.k = 5 ∨ t.k = 6 then [t.s, t.r] else [t.s]
def within (n : Int) : Int := min (max n 0) 1099511627776
def sumF (f : Sp → Int) (ss : List Sp) : Int := (ss.map f).sum
def sizeP (ss : List Sp) : Int := ss.length + sumF (fun s => 3 * (s.cs.length : Int)) ss
def leastP (ss : List Sp) : Int := sumF (fun s => if s.neg then 0 else within s.min) ss
def mostP (ss : List Sp) : Int := sumF (fun s => if s.neg then 0 else within s.max) ss
theorem sumF_zero (f : Sp → Int) (ss : List Sp) : sumF f (ss.take 0) = 0 := by simp [sumF]
theorem sumF_succ (f : Sp → Int) {ss : List Sp} {i : Nat} {s : Sp} (h : ss[i]? = some s) : sumF f (ss.take (i + 1)) = sumF f (ss.take i) + f s := by
  unfold sumF
  rw [List.take_add_one, h]
  simp
theorem sumF_all (f : Sp → Int) {ss : List Sp} {i : Nat} (h : ss.length ≤ i) : sumF f (ss.take i) = sumF f ss := by rw [List.take_of_length_le h]
theorem sumF_bd (f : Sp → Int) (M : Int) (ss : List Sp) (h : ∀ s ∈ ss, 0 ≤ f s ∧ f s ≤ M) : 0 ≤ sumF f ss ∧ sumF f ss ≤ ss.length * M := by
  unfold sumF
  induction ss with
  | nil => simp
  | cons x r ih =>
    obtain ⟨h1, h2⟩ := ih (fun s hs => h s (List.mem_cons_of_mem _ hs))
    obtain ⟨h3, h4⟩ := h x List.mem_cons_self
    simp only [List.map_cons, List.sum_cons, List.length_cons]
    refine ⟨by omega, ?_⟩
    have : ((r.length + 1 : Nat) : Int) * M = r.length * M + M := by push_cast; rw [Int.add_mul, Int.one_mul]
    omega
theorem sumF_take_bd (f : Sp → Int) (M : Int) (hM : 0 ≤ M) (ss : List Sp) (i : Nat) (h : ∀ s ∈ ss, 0 ≤ f s ∧ f s ≤ M) : 0 ≤ sumF f (ss.take i) ∧ sumF f (ss.take i) ≤ i * M := by
  obtain ⟨h1, h2⟩ := sumF_bd f M (ss.take i) (fun s hs => h s (List.mem_of_mem_take hs))
  refine ⟨h1, Int.le_trans h2 ?_⟩
  have : ((ss.take i).length : Int) ≤ i := by have := List.length_take_le i ss; omega
  exact Int.mul_le_mul_of_nonneg_right this hM
def posF : List Sp → Nat → List Int
  | [], _ => []
  | s :: r, i => if s.neg then posF r (i + 1) else (i : Int) :: posF r (i + 1)
def posP (ss : List Sp) : List Int := posF ss 0
theorem within_bd (n : Int) : 0 ≤ within n ∧ within n ≤ 1099511627776 := by unfold within; omega
theorem number_any (n : Int) (b : Bool) (w : World) (hb : Hid (nbr n = b)) : Calls Tryd.prog 48 #[.int .i64 n] w fun e w' => e = .returned (.bool b) ∧ w = w' := by
  have hb := hb.out
  subst hb
  unfold nbr
  by_cases h : 0 ≤ n
  · go_enter Tryd.func48, Tryd.ntmps48
    go_wp2
    go_ret
    exact ⟨by simp [h], rfl⟩
  · go_enter Tryd.func48, Tryd.ntmps48
    go_wp2
    go_ret
    exact ⟨by simp [h]; omega, rfl⟩
theorem upTo_any (n m : Int) (b : Bool) (w : World) (hb : Hid ((decide (0 ≤ n) && decide (n ≤ m)) = b)) : Calls Tryd.prog 77 #[.int .i64 n, .int .i64 m] w fun e w' => e = .returned (.bool b) ∧ w = w' := by
  have hb := hb.out
  subst hb
  by_cases h : 0 ≤ n
  · go_enter Tryd.func77, Tryd.ntmps77
    go_wp2
    go_ret
    exact ⟨by simp [h], rfl⟩
  · go_enter Tryd.func77, Tryd.ntmps77
    go_wp2
    go_ret
    exact ⟨by simp [h]; omega, rfl⟩
theorem howMany_any (k : Int) (w : World) : Calls Tryd.prog 116 #[.int .u8 k] w fun e w' => e = .returned (.int .i64 ((namesT ⟨k, 0, 0, 0⟩).length : Nat)) ∧ w = w' := by
  by_cases h0 : k = 0
  · subst h0
    go_enter Tryd.func116, Tryd.ntmps116
    go_wp2
    go_ret
    exact ⟨rfl, rfl⟩
  · by_cases h5 : k = 5
    · subst h5
      go_enter Tryd.func116, Tryd.ntmps116
      go_wp2
      go_ret
      exact ⟨rfl, rfl⟩
    · by_cases h6 : k = 6
      · subst h6
        go_enter Tryd.func116, Tryd.ntmps116
        go_wp2
        go_ret
        exact ⟨rfl, rfl⟩
      · have hb0 : (k == 0) = false := by simpa using h0
        have hb5 : (k == 5) = false := by simpa using h5
        have hb6 : (k == 6) = false := by simpa using h6
        have hr : Hid (((namesT ⟨k, 0, 0, 0⟩).length : Nat) = 1) := by show _ = _; simp [namesT, h0, h5, h6]
        clear h0 h5 h6
        go_enter Tryd.func116, Tryd.ntmps116
        go_wp2
        go_ret
        exact ⟨by rw [hr.out]; rfl, rfl⟩
theorem rightT_iff (t : Tm) : rightT t = true ↔ (t.k < 7 ∧ -1099511627776 ≤ t.n ∧ t.n ≤ 1099511627776 ∧ 0 ≤ t.s ∧ t.s < 26 ∧ 0 ≤ t.r ∧ t.r < 26 ∧ (t.k ≠ 0 ∨ t.s = 0) ∧ (t.k = 5 ∨ t.k = 6 ∨ t.r = 0)) := by unfold rightT; simp
set_option maxHeartbeats 2000000 in
theorem term_any (t : Tm) (w : World) : Calls Tryd.prog 49 #[tmV t] w fun e w' => e = .returned (.bool (rightT t)) ∧ Below w.heap.size w w' := by
  have H := Lib.hid (rightT_iff t)
  generalize rightT t = B at *
  obtain ⟨k, n, s, r⟩ := t
  dsimp only at *
  go_enter Tryd.func49, Tryd.ntmps49
  go_wp2
  all_goals (go_ret; refine ⟨congrArg (fun z => Ending.returned (.bool z)) ?_, (Below.refl w.heap.size w).alloc (Nat.le_refl _) _⟩)
  all_goals (rw [Bool.eq_iff_iff, H.out]; clear H; simp <;> omega)
end Go.Proofs.YtkedifhlkiffoaaDoor.Tree
/- Contracts of unnamed, and of the document's own Right. -/
namespace Go.Proofs.YtkedifhlkiffoaaDoor.Tree
open Go.ChangeShapes Go.WideShapes Go.ChangeAt Go.RowKit
set_option linter.unusedVariables false
set_option linter.unusedSimpArgs false
attribute [local go_sem] Oper.semAt_some
/-- A term with 0 where its names stand. -/
def unT (t : Tm) : Tm := if t.k = 0 then t else if t.k = 5 ∨ t.k = 6 then ⟨t.k, t.n, 0, 0⟩ else ⟨t.k, t.n, 0, t.r⟩
theorem new_two (w : World) (A B : Obj) : ((w.alloc A).alloc B).heap[w.heap.size + 1]? = some B := by have := World.alloc_heap_new (w.alloc A) B; rwa [World.size_alloc] at this
theorem below_two (w : World) (A B : Obj) : Below w.heap.size w ((w.alloc A).alloc B) := ((Below.refl _ w).alloc (Nat.le_refl _) _).alloc (by simp) _
set_option maxHeartbeats 1000000 in
theorem unnamed_0 (k n s r : Int) (w : World) (H : ∀ w, Calls Tryd.prog 116 #[.int .u8 k] w fun e w' => e = .returned (.int .i64 0) ∧ w = w') : Calls Tryd.prog 113 #[tmV ⟨k, n, s, r⟩] w fun e w' => e = .returned (tmV ⟨k, n, s, r⟩) ∧ Below w.heap.size w w' := by
  have H := Lib.hid H
  go_enter Tryd.func113, Tryd.ntmps113
  go_wp2_with ((with_reducible refine (H.out _).mono ?_); rintro e w2 ⟨rfl, rfl⟩)
  exact bodyPost_ret (v := tmV ⟨k, n, s, r⟩) (results_cell_row rfl _ _ (w.heap.size + 1) 46 _ (0, 0) _ rfl (new_two _ _ _) Tryd.underlying46 rfl (by kernel_rfl)) rfl ⟨rfl, below_two _ _ _⟩
set_option maxHeartbeats 1000000 in
theorem unnamed_1 (k n s r : Int) (w : World) (H : ∀ w, Calls Tryd.prog 116 #[.int .u8 k] w fun e w' => e = .returned (.int .i64 1) ∧ w = w') : Calls Tryd.prog 113 #[tmV ⟨k, n, s, r⟩] w fun e w' => e = .returned (tmV ⟨k, n, 0, r⟩) ∧ Below w.heap.size w w' := by
  have H := Lib.hid H
  go_enter Tryd.func113, Tryd.ntmps113
  go_wp2_with ((with_reducible refine (H.out _).mono ?_); rintro e w2 ⟨rfl, rfl⟩)
  exact bodyPost_ret (v := tmV ⟨k, n, 0, r⟩) (results_cell_row rfl _ _ (w.heap.size + 1) 46 _ (0, 0) _ rfl (new_two _ _ _) Tryd.underlying46 rfl (by kernel_rfl)) rfl ⟨rfl, below_two _ _ _⟩
set_option maxHeartbeats 1000000 in
theorem unnamed_2 (k n s r : Int) (w : World) (H : ∀ w, Calls Tryd.prog 116 #[.int .u8 k] w fun e w' => e = .returned (.int .i64 2) ∧ w = w') : Calls Tryd.prog 113 #[tmV ⟨k, n, s, r⟩] w fun e w' => e = .returned (tmV ⟨k, n, 0, 0⟩) ∧ Below w.heap.size w w' := by
  have H := Lib.hid H
  go_enter Tryd.func113, Tryd.ntmps113
  go_wp2_with ((with_reducible refine (H.out _).mono ?_); rintro e w2 ⟨rfl, rfl⟩)
  exact bodyPost_ret (v := tmV ⟨k, n, 0, 0⟩) (results_cell_row rfl _ _ (w.heap.size + 1) 46 _ (0, 0) _ rfl (new_two _ _ _) Tryd.underlying46 rfl (by kernel_rfl)) rfl ⟨rfl, below_two _ _ _⟩
theorem unnamed_any (t : Tm) (w : World) : Calls Tryd.prog 113 #[tmV t] w fun e w' => e = .returned (tmV (unT t)) ∧ Below w.heap.size w w' := by
  obtain ⟨k, n, s, r⟩ := t
  have hl : namesT ⟨k, 0, 0, 0⟩ = if k = 0 then [] else if k = 5 ∨ k = 6 then [0, 0] else [0] := rfl
  have hu : unT ⟨k, n, s, r⟩ = if k = 0 then ⟨k, n, s, r⟩ else if k = 5 ∨ k = 6 then ⟨k, n, 0, 0⟩ else ⟨k, n, 0, r⟩ := rfl
  rw [hu]
  have H := howMany_any k
  rw [hl] at H
  by_cases h0 : k = 0
  · rw [if_pos h0] at H ⊢; exact unnamed_0 k n s r w H
  · rw [if_neg h0] at H ⊢
    by_cases h5 : k = 5 ∨ k = 6
    · rw [if_pos h5] at H ⊢; exact unnamed_2 k n s r w H
    · rw [if_neg h5] at H ⊢; exact unnamed_1 k n s r w H
theorem step_no {ss : List Sp} {win : Int} {i : Nat} {s : Sp} (h : ss[i]? = some s) (hs : rightS s = false) : rightP ss win = false := by
  unfold rightP
  have : ss.all rightS = false := by
    rw [List.all_eq_false]
    exact ⟨s, List.mem_of_getElem? h, by simp [hs]⟩
  rw [this, Bool.and_false]
theorem steps_yes {ss : List Sp} {win : Int} {i : Nat} (h1 : 1 ≤ ss.length) (h2 : ss.length ≤ 26) (h3 : nbr win = true) (hi : ss.length ≤ i) (h : ∀ j s, j < i → ss[j]? = some s → rightS s = true) : rightP ss win = true := by
  unfold rightP
  rw [h3]
  simp only [h1, h2, decide_true, Bool.and_self, Bool.true_and, List.all_eq_true]
  intro s hs
  obtain ⟨j, hj⟩ := List.mem_iff_getElem?.1 hs
  exact h j s (by have := (List.getElem?_eq_some_iff.1 hj).1; omega) hj
theorem cmp_no {s : Sp} {i : Nat} {c : Cp} (h : s.cs[i]? = some c) (hs : rightC c = false) : rightS s = false := by
  unfold rightS
  have : s.cs.all rightC = false := by
    rw [List.all_eq_false]
    exact ⟨c, List.mem_of_getElem? h, by simp [hs]⟩
  rw [this, Bool.and_false]
theorem cmps_yes {s : Sp} {i : Nat} (h1 : nbr s.kind = true) (h2 : nbr s.min = true) (h3 : nbr s.max = true) (hi : s.cs.length ≤ i) (h : ∀ j c, j < i → s.cs[j]? = some c → rightC c = true) : rightS s = true := by
  unfold rightS
  rw [h1, h2, h3]
  simp only [Bool.and_self, Bool.true_and, List.all_eq_true]
  intro c hc
  obtain ⟨j, hj⟩ := List.mem_iff_getElem?.1 hc
  exact h j c (by have := (List.getElem?_eq_some_iff.1 hj).1; omega) hj
/-- A step in a box. -/
def SpBox (p : Nat) (s : Sp) (v : Value) (w : World) : Prop := w.heap[p]? = some (.cells #[.bool s.neg, .int .i64 s.kind, .int .i64 s.min, .int .i64 s.max, .bool s.strict, v] 39 (0, 0))
theorem SpBox.new (w : World) (s : Sp) (v : Value) : SpBox w.heap.size s v (w.alloc (.cells #[.bool s.neg, .int .i64 s.kind, .int .i64 s.min, .int .i64 s.max, .bool s.strict, v] 39)) := World.alloc_heap_new w _
theorem SpBox.lt {p : Nat} {s : Sp} {v : Value} {w : World} (h : SpBox p s v w) : p < w.heap.size := (Array.getElem?_eq_some_iff.1 h).1
theorem SpBox.later {p : Nat} {s : Sp} {v : Value} {w w' : World} (h : SpBox p s v w) (hb : Below w.heap.size w w') : SpBox p s v w' := (hb.block _ h.lt).trans h
theorem SpBox.cells {p : Nat} {s : Sp} {v : Value} {w : World} (h : SpBox p s v w) : w.cell? ⟨p, 0, none⟩ = some (.bool s.neg) ∧ w.cell? ⟨p, 1, none⟩ = some (.int .i64 s.kind) ∧ w.cell? ⟨p, 2, none⟩ = some (.int .i64 s.min) ∧ w.cell? ⟨p, 3, none⟩ = some (.int .i64 s.max) ∧ w.cell? ⟨p, 4, none⟩ = some (.bool s.strict) ∧ w.cell? ⟨p, 5, none⟩ = some v := by
  unfold SpBox at h
  refine ⟨?_, ?_, ?_, ?_, ?_, ?_⟩ <;> simp [World.cell?, h]
end Go.Proofs.YtkedifhlkiffoaaDoor.Tree
/- Contract of the document's own Right at patterns of any length. -/
namespace Go.Proofs.YtkedifhlkiffoaaDoor.Tree
open Go.ChangeShapes Go.WideShapes Go.ChangeAt Go.RowKit
set_option linter.unusedVariables false
set_option linter.unusedSimpArgs false
attribute [local go_sem] Oper.semAt_some
theorem rightC_op {c : Cp} (h : ¬ (1 ≤ c.op ∧ c.op < 7)) : rightC c = false := by
  unfold rightC
  by_cases h1 : 1 ≤ c.op
  · have : ¬ c.op < 7 := fun h2 => h ⟨h1, h2⟩
    simp [this]
  · simp [h1]
theorem rightC_l {c : Cp} (h : rightT c.l = false) : rightC c = false := by unfold rightC; simp [h]
theorem rightC_r {c : Cp} (h : rightT c.r = false) : rightC c = false := by unfold rightC; simp [h]
theorem rightC_yes {c : Cp} (h1 : 1 ≤ c.op) (h2 : c.op < 7) (h3 : rightT c.l = true) (h4 : rightT c.r = true) : rightC c = true := by unfold rightC; simp [h1, h2, h3, h4]
theorem rightS_kind {s : Sp} (h : nbr s.kind = false) : rightS s = false := by unfold rightS; simp [h]
theorem rightS_min {s : Sp} (h : nbr s.min = false) : rightS s = false := by unfold rightS; simp [h]
theorem rightS_max {s : Sp} (h : nbr s.max = false) : rightS s = false := by unfold rightS; simp [h]
theorem rightP_len {ss : List Sp} {win : Int} (h : ss.length < 1 ∨ 26 < ss.length) : rightP ss win = false := by
  unfold rightP
  by_cases h1 : 1 ≤ ss.length
  · have : ¬ ss.length ≤ 26 := by omega
    simp [this]
  · simp [h1]
theorem rightP_win {ss : List Sp} {win : Int} (h : nbr win = false) : rightP ss win = false := by unfold rightP; simp [h]
theorem slice_eq {a a' : Option Addr} {n c c' : Nat} (h : Value.slice a n c = .slice a' n c') : a = a' ∧ c = c' := by cases h; exact ⟨rfl, rfl⟩
/-- What of a pattern in a box is read. -/
def PtIn (B : Nat) (a : Option Addr) (n c : Nat) (win : Int) (L : List (Sp × Value)) (W : World) : Prop := PtBox B (.slice a n c) win W ∧ L.length = n ∧ SpsL W (.slice a n c) L
theorem PtIn.later {B : Nat} {a : Option Addr} {n c : Nat} {win : Int} {L : List (Sp × Value)} {W W' : World} (h : PtIn B a n c win L W) (hb : Below W.heap.size W W') : PtIn B a n c win L W' := ⟨h.1.later hb, h.2.1, h.2.2.later hb⟩
theorem PtIn.step {B : Nat} {a : Option Addr} {n c : Nat} {win : Int} {L : List (Sp × Value)} {W : World} (h : PtIn B a n c win L W) {i : Nat} {s : Sp} {v : Value} (hx : L[i]? = some (s, v)) :
    ∃ b o, a = some ⟨b, o, none⟩ ∧ W.cell? ⟨b, o + i * 6, none⟩ = some (.bool s.neg) ∧ W.cell? ⟨b, o + i * 6 + 1, none⟩ = some (.int .i64 s.kind) ∧ W.cell? ⟨b, o + i * 6 + 2, none⟩ = some (.int .i64 s.min) ∧
      W.cell? ⟨b, o + i * 6 + 3, none⟩ = some (.int .i64 s.max) ∧ W.cell? ⟨b, o + i * 6 + 4, none⟩ = some (.bool s.strict) ∧ W.cell? ⟨b, o + i * 6 + 5, none⟩ = some v ∧ CpsAt W v s.cs := by
  obtain ⟨⟨a', c', e, hc⟩, hcs⟩ := h.2.2
  rw [h.2.1] at e
  obtain ⟨rfl, rfl⟩ := slice_eq e
  obtain ⟨b, o, e, z0, z1, z2, z3, z4, z5⟩ := sps_cell hc hx
  exact ⟨b, o, e, z0, z1, z2, z3, z4, z5, hcs _ (List.mem_of_getElem? hx)⟩
/-- What of a step in a box is read. -/
def SpIn (S : Nat) (s : Sp) (a : Option Addr) (n c : Nat) (W : World) : Prop := SpBox S s (.slice a n c) W ∧ s.cs.length = n ∧ CpsAt W (.slice a n c) s.cs
theorem SpIn.later {S : Nat} {s : Sp} {a : Option Addr} {n c : Nat} {W W' : World} (h : SpIn S s a n c W) (hb : Below W.heap.size W W') : SpIn S s a n c W' := ⟨h.1.later hb, h.2.1, h.2.2.later hb⟩
theorem SpIn.cmp {S : Nat} {s : Sp} {a : Option Addr} {n c : Nat} {W : World} (h : SpIn S s a n c W) {i : Nat} {x : Cp} (hx : s.cs[i]? = some x) :
    ∃ b o, a = some ⟨b, o, none⟩ ∧ W.cell? ⟨b, o + i * 9, none⟩ = some (.int .u8 x.op) ∧ W.cell? ⟨b, o + i * 9 + 1, none⟩ = some (.int .u8 x.l.k) ∧ W.cell? ⟨b, o + i * 9 + 2, none⟩ = some (.int .i64 x.l.n) ∧
      W.cell? ⟨b, o + i * 9 + 3, none⟩ = some (.int .i64 x.l.s) ∧ W.cell? ⟨b, o + i * 9 + 4, none⟩ = some (.int .i64 x.l.r) ∧ W.cell? ⟨b, o + i * 9 + 5, none⟩ = some (.int .u8 x.r.k) ∧
      W.cell? ⟨b, o + i * 9 + 6, none⟩ = some (.int .i64 x.r.n) ∧ W.cell? ⟨b, o + i * 9 + 7, none⟩ = some (.int .i64 x.r.s) ∧ W.cell? ⟨b, o + i * 9 + 8, none⟩ = some (.int .i64 x.r.r) := by
  obtain ⟨a', c', e, hc⟩ := h.2.2
  rw [h.2.1] at e
  obtain ⟨rfl, rfl⟩ := slice_eq e
  exact cps_cell hc hx
/-- A comparison in a box. -/
def CpBox (p : Nat) (x : Cp) (w : World) : Prop := w.heap[p]? = some (.cells #[.int .u8 x.op, .int .u8 x.l.k, .int .i64 x.l.n, .int .i64 x.l.s, .int .i64 x.l.r, .int .u8 x.r.k, .int .i64 x.r.n, .int .i64 x.r.s, .int .i64 x.r.r] 48 (0, 0))
theorem CpBox.lt {p : Nat} {x : Cp} {w : World} (h : CpBox p x w) : p < w.heap.size := (Array.getElem?_eq_some_iff.1 h).1
theorem CpBox.later {p : Nat} {x : Cp} {w w' : World} (h : CpBox p x w) (hb : Below w.heap.size w w') : CpBox p x w' := (hb.block _ h.lt).trans h
theorem CpBox.cells {p : Nat} {x : Cp} {w : World} (h : CpBox p x w) : w.cell? ⟨p, 0, none⟩ = some (.int .u8 x.op) ∧ w.cell? ⟨p, 1, none⟩ = some (.int .u8 x.l.k) ∧ w.cell? ⟨p, 2, none⟩ = some (.int .i64 x.l.n) ∧
      w.cell? ⟨p, 3, none⟩ = some (.int .i64 x.l.s) ∧ w.cell? ⟨p, 4, none⟩ = some (.int .i64 x.l.r) ∧ w.cell? ⟨p, 5, none⟩ = some (.int .u8 x.r.k) ∧
      w.cell? ⟨p, 6, none⟩ = some (.int .i64 x.r.n) ∧ w.cell? ⟨p, 7, none⟩ = some (.int .i64 x.r.s) ∧ w.cell? ⟨p, 8, none⟩ = some (.int .i64 x.r.r) := by
  unfold CpBox at h
  refine ⟨?_, ?_, ?_, ?_, ?_, ?_, ?_, ?_, ?_⟩ <;> simp [World.cell?, h]
theorem kept_trans {w w1 w2 : World} (h1 : Below w.heap.size w w1) (h2 : Below w1.heap.size w1 w2) : Below w.heap.size w w2 := h1.trans (h2.mono h1.size)
theorem kept_alloc {w w1 : World} (h1 : Below w.heap.size w w1) (o : Obj) : Below w.heap.size w (w1.alloc o) := kept_trans h1 ((Below.refl _ w1).alloc (Nat.le_refl _) o)
theorem kept_new (w : World) (o : Obj) : Below w.heap.size w (w.alloc o) := (Below.refl _ w).alloc (Nat.le_refl _) o
theorem CpBox.new (w : World) (x : Cp) : CpBox w.heap.size x (w.alloc (.cells #[.int .u8 x.op, .int .u8 x.l.k, .int .i64 x.l.n, .int .i64 x.l.s, .int .i64 x.l.r, .int .u8 x.r.k, .int .i64 x.r.n, .int .i64 x.r.s, .int .i64 x.r.r] 48)) := World.alloc_heap_new w _
end Go.Proofs.YtkedifhlkiffoaaDoor.Tree
/- Contracts of the document's own Size and Long, and of tree's Size, at patterns that are not too great. -/
namespace Go.Proofs.YtkedifhlkiffoaaDoor.Tree
open Go.ChangeShapes Go.WideShapes Go.ChangeAt Go.RowKit
set_option linter.unusedVariables false
set_option linter.unusedSimpArgs false
attribute [local go_sem] Oper.semAt_some
/-- Not too great. -/
def Fair (ss : List Sp) : Prop := ss.length ≤ 100 ∧ ∀ s ∈ ss, s.cs.length ≤ 100
theorem fair_mem {L : List (Sp × Value)} {i : Nat} {s : Sp} {v : Value} (h : Fair (L.map (·.1))) (hx : L[i]? = some (s, v)) : s.cs.length ≤ 100 ∧ (L.map (·.1))[i]? = some s := by
  have e : (L.map (·.1))[i]? = some s := by rw [List.getElem?_map, hx]; rfl
  exact ⟨h.2 _ (List.mem_of_getElem? e), e⟩
abbrev sz3 (s : Sp) : Int := 3 * (s.cs.length : Int)
abbrev lo3 (s : Sp) : Int := if s.neg then 0 else within s.min
abbrev hi3 (s : Sp) : Int := if s.neg then 0 else within s.max
theorem sz_bd {ss : List Sp} (h : Fair ss) (i : Nat) (hi : i ≤ 100) : 0 ≤ sumF sz3 (ss.take i) ∧ sumF sz3 (ss.take i) ≤ 100000 := by
  have := sumF_take_bd sz3 300 (by omega) ss i (fun s hs => by have := h.2 s hs; show 0 ≤ 3 * (s.cs.length : Int) ∧ 3 * (s.cs.length : Int) ≤ 300; omega)
  omega
theorem lo_bd (ss : List Sp) (i : Nat) (hi : i ≤ 100) : 0 ≤ sumF lo3 (ss.take i) ∧ sumF lo3 (ss.take i) ≤ 109951162777600 := by
  have := sumF_take_bd lo3 1099511627776 (by omega) ss i (fun s _ => by have := within_bd s.min; show 0 ≤ (if s.neg then 0 else within s.min) ∧ (if s.neg then 0 else within s.min) ≤ 1099511627776; split <;> omega)
  omega
theorem hi_bd (ss : List Sp) (i : Nat) (hi : i ≤ 100) : 0 ≤ sumF hi3 (ss.take i) ∧ sumF hi3 (ss.take i) ≤ 109951162777600 := by
  have := sumF_take_bd hi3 1099511627776 (by omega) ss i (fun s _ => by have := within_bd s.max; show 0 ≤ (if s.neg then 0 else within s.max) ∧ (if s.neg then 0 else within s.max) ≤ 1099511627776; split <;> omega)
  omega
end Go.Proofs.YtkedifhlkiffoaaDoor.Tree
/- Terms and comparisons by ==. -/
namespace Go.Proofs.YtkedifhlkiffoaaDoor.Tree
open Go.ChangeShapes Go.WideShapes Go.ChangeAt Go.RowKit
set_option linter.unusedVariables false
set_option linter.unusedSimpArgs false
attribute [local go_sem] Oper.semAt_some
theorem tm_eq (d : Nat) (a b : Tm) (w : World) : (Op.equalIn (d + 2) 46 (tmV a) (tmV b)).run Tryd.prog w = .ok (decide (a = b)) w := by
  obtain ⟨k, n, s, r⟩ := a
  obtain ⟨k', n', s', r'⟩ := b
  rw [run_equalIn_struct w (d + 1) 46 _ _ (by kernel_rfl) (by kernel_rfl)]
  have hl : (Tryd.prog.fieldsOf 46).toList = [(Tryd.prog.fieldsOf 46).toList[0]!, (Tryd.prog.fieldsOf 46).toList[1]!, (Tryd.prog.fieldsOf 46).toList[2]!, (Tryd.prog.fieldsOf 46).toList[3]!] := by kernel_rfl
  have t0 : ((Tryd.prog.fieldsOf 46).toList[0]!).type = 5 := by kernel_rfl
  have t1 : ((Tryd.prog.fieldsOf 46).toList[1]!).type = 3 := by kernel_rfl
  have t2 : ((Tryd.prog.fieldsOf 46).toList[2]!).type = 3 := by kernel_rfl
  have t3 : ((Tryd.prog.fieldsOf 46).toList[3]!).type = 3 := by kernel_rfl
  have o0 : ((Tryd.prog.fieldsOf 46).toList[0]!).offset = 0 := by kernel_rfl
  have o1 : ((Tryd.prog.fieldsOf 46).toList[1]!).offset = 1 := by kernel_rfl
  have o2 : ((Tryd.prog.fieldsOf 46).toList[2]!).offset = 2 := by kernel_rfl
  have o3 : ((Tryd.prog.fieldsOf 46).toList[3]!).offset = 3 := by kernel_rfl
  have n0 : ((Tryd.prog.fieldsOf 46).toList[0]!).name ≠ "_" := of_decide_eq_true (by kernel_rfl)
  have n1 : ((Tryd.prog.fieldsOf 46).toList[1]!).name ≠ "_" := of_decide_eq_true (by kernel_rfl)
  have n2 : ((Tryd.prog.fieldsOf 46).toList[2]!).name ≠ "_" := of_decide_eq_true (by kernel_rfl)
  have n3 : ((Tryd.prog.fieldsOf 46).toList[3]!).name ≠ "_" := of_decide_eq_true (by kernel_rfl)
  have p0 : ∀ k n s r w, (part 5 #[Value.int .u8 k, .int .i64 n, .int .i64 s, .int .i64 r] 0).run Tryd.prog w = .ok (.int .u8 k) w := by intros; kernel_rfl
  have p1 : ∀ k n s r w, (part 3 #[Value.int .u8 k, .int .i64 n, .int .i64 s, .int .i64 r] 1).run Tryd.prog w = .ok (.int .i64 n) w := by intros; kernel_rfl
  have p2 : ∀ k n s r w, (part 3 #[Value.int .u8 k, .int .i64 n, .int .i64 s, .int .i64 r] 2).run Tryd.prog w = .ok (.int .i64 s) w := by intros; kernel_rfl
  have p3 : ∀ k n s r w, (part 3 #[Value.int .u8 k, .int .i64 n, .int .i64 s, .int .i64 r] 3).run Tryd.prog w = .ok (.int .i64 r) w := by intros; kernel_rfl
  rw [hl]
  generalize (Tryd.prog.fieldsOf 46).toList[0]! = f0 at *
  generalize (Tryd.prog.fieldsOf 46).toList[1]! = f1 at *
  generalize (Tryd.prog.fieldsOf 46).toList[2]! = f2 at *
  generalize (Tryd.prog.fieldsOf 46).toList[3]! = f3 at *
  clear hl
  have e5 : ∀ a b w, (Op.equalIn (d + 1) 5 (.int .u8 a) (.int .u8 b)).run Tryd.prog w = .ok (a == b) w := fun a b w => run_equalIn_int w d 5 _ .u8 a b (by kernel_rfl)
  have e3 : ∀ a b w, (Op.equalIn (d + 1) 3 (.int .i64 a) (.int .i64 b)).run Tryd.prog w = .ok (a == b) w := fun a b w => run_equalIn_int w d 3 _ .i64 a b (by kernel_rfl)
  simp only [Op.eqFields, n0, n1, n2, n3, t0, t1, t2, t3, o0, o1, o2, o3, ne_eq, not_false_eq_true, if_true, Sem.run_bind, p0, p1, p2, p3, e5, e3, Result.andThen_ok, Sem.run_ite, Sem.run_pure]
  by_cases h0 : k = k' <;> by_cases h1 : n = n' <;> by_cases h2 : s = s' <;> by_cases h3 : r = r' <;> simp [h0, h1, h2, h3]
theorem cp_eq (d : Nat) (a b : Cp) (w : World) : (Op.equalIn (d + 3) 48 (cpV a) (cpV b)).run Tryd.prog w = .ok (decide (a = b)) w := by
  obtain ⟨op, l, r⟩ := a
  obtain ⟨op', l', r'⟩ := b
  rw [run_equalIn_struct w (d + 2) 48 _ _ (by kernel_rfl) (by kernel_rfl)]
  have hl : (Tryd.prog.fieldsOf 48).toList = [(Tryd.prog.fieldsOf 48).toList[0]!, (Tryd.prog.fieldsOf 48).toList[1]!, (Tryd.prog.fieldsOf 48).toList[2]!] := by kernel_rfl
  have t0 : ((Tryd.prog.fieldsOf 48).toList[0]!).type = 5 := by kernel_rfl
  have t1 : ((Tryd.prog.fieldsOf 48).toList[1]!).type = 46 := by kernel_rfl
  have t2 : ((Tryd.prog.fieldsOf 48).toList[2]!).type = 46 := by kernel_rfl
  have o0 : ((Tryd.prog.fieldsOf 48).toList[0]!).offset = 0 := by kernel_rfl
  have o1 : ((Tryd.prog.fieldsOf 48).toList[1]!).offset = 1 := by kernel_rfl
  have o2 : ((Tryd.prog.fieldsOf 48).toList[2]!).offset = 5 := by kernel_rfl
  have n0 : ((Tryd.prog.fieldsOf 48).toList[0]!).name ≠ "_" := of_decide_eq_true (by kernel_rfl)
  have n1 : ((Tryd.prog.fieldsOf 48).toList[1]!).name ≠ "_" := of_decide_eq_true (by kernel_rfl)
  have n2 : ((Tryd.prog.fieldsOf 48).toList[2]!).name ≠ "_" := of_decide_eq_true (by kernel_rfl)
  have p0 : ∀ op lk ln ls lr rk rn rs rr w, (part 5 #[Value.int .u8 op, .int .u8 lk, .int .i64 ln, .int .i64 ls, .int .i64 lr, .int .u8 rk, .int .i64 rn, .int .i64 rs, .int .i64 rr] 0).run Tryd.prog w = .ok (.int .u8 op) w := by intros; kernel_rfl
  have p1 : ∀ op lk ln ls lr rk rn rs rr w, (part 46 #[Value.int .u8 op, .int .u8 lk, .int .i64 ln, .int .i64 ls, .int .i64 lr, .int .u8 rk, .int .i64 rn, .int .i64 rs, .int .i64 rr] 1).run Tryd.prog w = .ok (.agg #[.int .u8 lk, .int .i64 ln, .int .i64 ls, .int .i64 lr]) w := by intros; kernel_rfl
  have p2 : ∀ op lk ln ls lr rk rn rs rr w, (part 46 #[Value.int .u8 op, .int .u8 lk, .int .i64 ln, .int .i64 ls, .int .i64 lr, .int .u8 rk, .int .i64 rn, .int .i64 rs, .int .i64 rr] 5).run Tryd.prog w = .ok (.agg #[.int .u8 rk, .int .i64 rn, .int .i64 rs, .int .i64 rr]) w := by intros; kernel_rfl
  rw [hl]
  generalize (Tryd.prog.fieldsOf 48).toList[0]! = f0 at *
  generalize (Tryd.prog.fieldsOf 48).toList[1]! = f1 at *
  generalize (Tryd.prog.fieldsOf 48).toList[2]! = f2 at *
  clear hl
  have e5 : ∀ a b w, (Op.equalIn (d + 2) 5 (.int .u8 a) (.int .u8 b)).run Tryd.prog w = .ok (a == b) w := fun a b w => run_equalIn_int w (d + 1) 5 _ .u8 a b (by kernel_rfl)
  have e26 : ∀ a b w, (Op.equalIn (d + 2) 46 (tmV a) (tmV b)).run Tryd.prog w = .ok (decide (a = b)) w := fun a b w => tm_eq d a b w
  simp only [Op.eqFields, n0, n1, n2, t0, t1, t2, o0, o1, o2, ne_eq, not_false_eq_true, if_true, Sem.run_bind, p0, p1, p2, e5, e26, Result.andThen_ok, Sem.run_ite, Sem.run_pure]
  by_cases h0 : op = op' <;> by_cases h1 : l = l' <;> by_cases h2 : r = r' <;> simp [h0, h1, h2]
theorem tm_eql (a b : Tm) (w : World) : (binOp .eql 46 (tmV a) (tmV b)).run Tryd.prog w = .ok (.bool (decide (a = b))) w := by
  rw [run_eql_struct w, tm_eq 9998]; rfl
theorem cp_neq (a b : Cp) (w : World) : (binOp .neq 48 (cpV a) (cpV b)).run Tryd.prog w = .ok (.bool (!decide (a = b))) w := by
  rw [run_neq_struct w, cp_eq 9997]; rfl
end Go.Proofs.YtkedifhlkiffoaaDoor.Tree
/- Contracts of tree.sameCmp, of slices.EqualFunc at comparisons, of tree.sameStep. -/
namespace Go.Proofs.YtkedifhlkiffoaaDoor.Tree
open Go.ChangeShapes Go.WideShapes Go.ChangeAt Go.RowKit
set_option linter.unusedVariables false
set_option linter.unusedSimpArgs false
attribute [local go_sem] Oper.semAt_some
theorem eq_all {α : Type} {xs ys : List α} {n : Nat} (h1 : xs.length = n) (h2 : ys.length = n) {i : Nat} (hi : n ≤ i) (h : ∀ j, j < i → xs[j]? = ys[j]?) : xs = ys := by
  apply List.ext_getElem?
  intro j
  by_cases hj : j < i
  · exact h j hj
  · rw [List.getElem?_eq_none (by omega), List.getElem?_eq_none (by omega)]
theorem neq_at {α : Type} {xs ys : List α} {i : Nat} {x y : α} (h1 : xs[i]? = some x) (h2 : ys[i]? = some y) (h : x ≠ y) : xs ≠ ys := by
  intro e; subst e; rw [h1] at h2; cases h2; exact h rfl
theorem at_eq {α : Type} {xs ys : List α} {i : Nat} {x y : α} (h1 : xs[i]? = some x) (h2 : ys[i]? = some y) (e : x = y) : xs[i]? = ys[i]? := by rw [h1, h2, e]
theorem all_succ {p : Nat → Prop} {i : Nat} (h : ∀ j, j < i → p j) (hi : p i) : ∀ j, j < i + 1 → p j := by
  intro j hj
  by_cases e : j = i
  · subst e; exact hi
  · exact h j (by omega)
theorem sp_eq (s t : Sp) : decide (s = t) = ((s.neg == t.neg) && (s.kind == t.kind) && (s.min == t.min) && (s.max == t.max) && (s.strict == t.strict) && decide (s.cs = t.cs)) := by
  obtain ⟨a, b, c, d, e, f⟩ := s; obtain ⟨a', b', c', d', e', f'⟩ := t
  by_cases e0 : a = a' <;> by_cases e1 : b = b' <;> by_cases e2 : c = c' <;> by_cases e3 : d = d' <;> by_cases e4 : e = e' <;> by_cases e5 : f = f' <;> simp [e0, e1, e2, e3, e4, e5]
end Go.Proofs.YtkedifhlkiffoaaDoor.Tree
/- Contracts of slices.EqualFunc at steps, and of tree.Same. -/
namespace Go.Proofs.YtkedifhlkiffoaaDoor.Tree
open Go.ChangeShapes Go.WideShapes Go.ChangeAt Go.RowKit
set_option linter.unusedVariables false
set_option linter.unusedSimpArgs false
attribute [local go_sem] Oper.semAt_some
theorem map_fst {L : List (Sp × Value)} {i : Nat} {s : Sp} {v : Value} (h : L[i]? = some (s, v)) : (L.map (·.1))[i]? = some s := by rw [List.getElem?_map, h]; rfl
theorem spsL_at {w : World} {a : Option Addr} {n c : Nat} {L : List (Sp × Value)} (h : SpsL w (.slice a n c) L) (hn : L.length = n) {i : Nat} {s : Sp} {v : Value} (hx : L[i]? = some (s, v)) :
    ∃ b o, a = some ⟨b, o, none⟩ ∧ w.cell? ⟨b, o + i * 6, none⟩ = some (.bool s.neg) ∧ w.cell? ⟨b, o + i * 6 + 1, none⟩ = some (.int .i64 s.kind) ∧ w.cell? ⟨b, o + i * 6 + 2, none⟩ = some (.int .i64 s.min) ∧
      w.cell? ⟨b, o + i * 6 + 3, none⟩ = some (.int .i64 s.max) ∧ w.cell? ⟨b, o + i * 6 + 4, none⟩ = some (.bool s.strict) ∧ w.cell? ⟨b, o + i * 6 + 5, none⟩ = some v ∧ CpsAt w v s.cs := by
  obtain ⟨⟨a', c', e, hc⟩, hcs⟩ := h
  rw [hn] at e
  obtain ⟨rfl, rfl⟩ := slice_eq e
  obtain ⟨b, o, e, z0, z1, z2, z3, z4, z5⟩ := sps_cell hc hx
  exact ⟨b, o, e, z0, z1, z2, z3, z4, z5, hcs _ (List.mem_of_getElem? hx)⟩
/-- No list is too long to be walked. -/
def Short (L : List (Sp × Value)) : Prop := L.length ≤ 140737488351232 ∧ ∀ x ∈ L, x.1.cs.length ≤ 140737488351232
end Go.Proofs.YtkedifhlkiffoaaDoor.Tree
/- Contract of the document's own step. -/
namespace Go.Proofs.YtkedifhlkiffoaaDoor.Tree
open Go.ChangeShapes Go.WideShapes Go.ChangeAt Go.RowKit
set_option linter.unusedVariables false
set_option linter.unusedSimpArgs false
attribute [local go_sem] Oper.semAt_some
theorem cps_lit {w : World} {v : Value} {cs : List Cp} {n : Nat} (h : CpsAt w v cs) (hn : cs.length = n) : ∃ a c, v = .slice a n c := by
  obtain ⟨a, c, e, -⟩ := h
  exact ⟨a, c, by rw [e, hn]⟩
theorem cpsL_at {w : World} {a : Option Addr} {n c : Nat} {cs : List Cp} (h : CpsAt w (.slice a n c) cs) (hn : cs.length = n) {i : Nat} {x : Cp} (hx : cs[i]? = some x) :
    ∃ b o, a = some ⟨b, o, none⟩ ∧ w.cell? ⟨b, o + i * 9, none⟩ = some (.int .u8 x.op) ∧ w.cell? ⟨b, o + i * 9 + 1, none⟩ = some (.int .u8 x.l.k) ∧ w.cell? ⟨b, o + i * 9 + 2, none⟩ = some (.int .i64 x.l.n) ∧
      w.cell? ⟨b, o + i * 9 + 3, none⟩ = some (.int .i64 x.l.s) ∧ w.cell? ⟨b, o + i * 9 + 4, none⟩ = some (.int .i64 x.l.r) ∧ w.cell? ⟨b, o + i * 9 + 5, none⟩ = some (.int .u8 x.r.k) ∧
      w.cell? ⟨b, o + i * 9 + 6, none⟩ = some (.int .i64 x.r.n) ∧ w.cell? ⟨b, o + i * 9 + 7, none⟩ = some (.int .i64 x.r.s) ∧ w.cell? ⟨b, o + i * 9 + 8, none⟩ = some (.int .i64 x.r.r) := by
  obtain ⟨a', c', e, hc⟩ := h
  rw [hn] at e
  obtain ⟨rfl, rfl⟩ := slice_eq e
  exact cps_cell hc hx
theorem drewN_kept (w : World) (m : Nat) : Below w.heap.size w (w.drewN m) := ⟨rfl, rfl, rfl, Nat.le_refl _, fun _ _ => rfl⟩
set_option maxRecDepth 100000 in
set_option maxHeartbeats 1000000 in
theorem refStep_any (v1 v2 : Value) (s u : Sp) (w : World) (hx1 : s.cs.length ≤ 140737488351232) (hy1 : u.cs.length ≤ 140737488351232) (h1 : CpsAt w v1 s.cs) (h2 : CpsAt w v2 u.cs) :
    Calls Tryd.prog 46 #[spV s v1, spV u v2] w fun e w' => e = .returned (.bool (decide (s = u))) ∧ Below w.heap.size w w' := by
  rw [sp_eq]
  obtain ⟨n, hn⟩ : ∃ n, s.cs.length = n := ⟨_, rfl⟩
  obtain ⟨m, hm⟩ : ∃ m, u.cs.length = m := ⟨_, rfl⟩
  obtain ⟨a1, c1, rfl⟩ := cps_lit h1 hn
  obtain ⟨a2, c2, rfl⟩ := cps_lit h2 hm
  rw [hn] at hx1
  rw [hm] at hy1
  replace hn := Lib.hid hn
  replace hm := Lib.hid hm
  have hb1 := SpBox.new w s (.slice a1 n c1)
  have hb2 := SpBox.new (w.alloc (.cells #[.bool s.neg, .int .i64 s.kind, .int .i64 s.min, .int .i64 s.max, .bool s.strict, .slice a1 n c1] 39)) u (.slice a2 m c2)
  replace hb1 := hb1.later (kept_new _ (.cells #[.bool u.neg, .int .i64 u.kind, .int .i64 u.min, .int .i64 u.max, .bool u.strict, .slice a2 m c2] 39))
  have hbel := below_two w (.cells #[.bool s.neg, .int .i64 s.kind, .int .i64 s.min, .int .i64 s.max, .bool s.strict, .slice a1 n c1] 39) (.cells #[.bool u.neg, .int .i64 u.kind, .int .i64 u.min, .int .i64 u.max, .bool u.strict, .slice a2 m c2] 39)
  rw [World.size_alloc] at hb2
  replace h1 := Lib.hid (h1.later hbel)
  replace h2 := Lib.hid (h2.later hbel)
  replace hb1 := Lib.hid hb1
  replace hb2 := Lib.hid hb2
  replace hbel := Lib.hid hbel
  obtain ⟨R, hR⟩ : ∃ R, decide (s.cs = u.cs) = R := ⟨_, rfl⟩
  rw [hR]
  replace hR := Lib.hid hR
  obtain ⟨neg, kind, mi, ma, strict, cs⟩ := s
  obtain ⟨neg', kind', mi', ma', strict', cs'⟩ := u
  dsimp only at *
  by_cases e0 : neg = neg'
  case neg =>
    have hr : ((neg == neg') && (kind == kind') && (mi == mi') && (ma == ma') && (strict == strict') && R) = false := by simp [e0]
    rw [hr]
    cases neg <;> cases neg' <;> first | exact absurd rfl e0 | skip
    all_goals (clear hr e0; go_enter Tryd.func46, Tryd.ntmps46; go_wp2_with fail; go_ret; exact ⟨rfl, below_two _ _ _⟩)
  subst e0
  by_cases e1 : kind = kind'
  case neg =>
    have hr : ((neg == neg) && (kind == kind') && (mi == mi') && (ma == ma') && (strict == strict') && R) = false := by simp [e1]
    rw [hr]
    go_enter Tryd.func46, Tryd.ntmps46; go_wp2_with fail; go_ret; exact ⟨rfl, below_two _ _ _⟩
  subst e1
  by_cases e2 : mi = mi'
  case neg =>
    have hr : ((neg == neg) && (kind == kind) && (mi == mi') && (ma == ma') && (strict == strict') && R) = false := by simp [e2]
    rw [hr]
    go_enter Tryd.func46, Tryd.ntmps46; go_wp2_with fail; go_ret; exact ⟨rfl, below_two _ _ _⟩
  subst e2
  by_cases e3 : ma = ma'
  case neg =>
    have hr : ((neg == neg) && (kind == kind) && (mi == mi) && (ma == ma') && (strict == strict') && R) = false := by simp [e3]
    rw [hr]
    go_enter Tryd.func46, Tryd.ntmps46; go_wp2_with fail; go_ret; exact ⟨rfl, below_two _ _ _⟩
  subst e3
  by_cases e4 : strict = strict'
  case neg =>
    have hr : ((neg == neg) && (kind == kind) && (mi == mi) && (ma == ma) && (strict == strict') && R) = false := by simp [e4]
    rw [hr]
    cases strict <;> cases strict' <;> first | exact absurd rfl e4 | skip
    all_goals (clear hr e4; go_enter Tryd.func46, Tryd.ntmps46; go_wp2_with fail; go_ret; exact ⟨rfl, below_two _ _ _⟩)
  subst e4
  have hr : ((neg == neg) && (kind == kind) && (mi == mi) && (ma == ma) && (strict == strict) && R) = R := by simp
  rw [hr]
  clear hr
  by_cases hnm : n = m
  · subst hnm
    go_enter Tryd.func46, Tryd.ntmps46
    go_wp2_with fail
    have hd := Lib.hid (fun m => kept_trans hbel.out (drewN_kept _ m))
    have hd2 := Lib.hid (fun m k => kept_trans (kept_trans hbel.out (drewN_kept _ m)) (drewN_kept _ k))
    generalize hS : w.heap.size = S at *
    replace hS := Lib.hid hS
    generalize (w.alloc (.cells #[.bool neg, .int .i64 kind, .int .i64 mi, .int .i64 ma, .bool strict, .slice a1 n c1] 39)).alloc (.cells #[.bool neg, .int .i64 kind, .int .i64 mi, .int .i64 ma, .bool strict, .slice a2 n c2] 39) = w0 at *
    go_loopw [5] (fun t wr => ∃ i : Nat, i ≤ n ∧ t = .int .i64 i ∧ (∃ m, wr = w0.drewN m) ∧ Hid (∀ j, j < i → cs[j]? = cs'[j]?)) (fun t _ => n - (intOf t).toNat)
    case atStart => exact ⟨0, Nat.zero_le _, rfl, ⟨0, rfl⟩, fun j hj => by omega⟩
    case round =>
      obtain ⟨i, hi, rfl, ⟨m, rfl⟩, hall⟩ := hrel
      obtain ⟨-, -, -, -, -, s5⟩ := hb1.out.cells
      obtain ⟨-, -, -, -, -, t5⟩ := hb2.out.cells
      by_cases hlt : i < n
      · obtain ⟨x, hx⟩ : ∃ x, cs[i]? = some x := ⟨_, List.getElem?_eq_getElem (by rw [hn.out]; exact hlt)⟩
        obtain ⟨y, hy⟩ : ∃ y, cs'[i]? = some y := ⟨_, List.getElem?_eq_getElem (by rw [hm.out]; exact hlt)⟩
        obtain ⟨p1, o1, rfl, x0, x1, x2, x3, x4, x5, x6, x7, x8⟩ := cpsL_at h1.out hn.out hx
        obtain ⟨p2, o2, rfl, y0, y1, y2, y3, y4, y5, y6, y7, y8⟩ := cpsL_at h2.out hm.out hy
        have hlti : (i : Int) < n := by omega
        have hne := Lib.hid (neq_at hx hy)
        have hat := Lib.hid (at_eq hx hy)
        clear hx hy
        have hC := fun w => cp_neq x y w
        obtain ⟨B, hB⟩ : ∃ B, decide (x = y) = B := ⟨_, rfl⟩
        rw [hB] at hC
        cases B
        · have hRf : R = false := by rw [← hR.out]; simp; exact hne.out (by simpa using hB)
          subst hRf
          clear hR hB
          go_wp2_with fail
          go_quiet (fail)
          go_wp2_with fail
          go_ret
          exact ⟨rfl, by rw [hS.out]; exact hd2.out _ _⟩
        · replace hat := Lib.hid (hat.out (by simpa using hB))
          clear hB
          go_wp2_with fail
          go_quiet (fail)
          go_wp2_with fail
          exact ⟨⟨i + 1, by omega, by go_num, ⟨m + nq, by simp [World.drewN, Nat.add_assoc]⟩, all_succ hall.out hat.out⟩, by simp [intOf]; omega⟩
      · have hRt : R = true := by rw [← hR.out]; simp; exact eq_all hn.out hm.out (i := i) (by omega) hall.out
        subst hRt
        clear hR
        have hlti : ¬ (i : Int) < n := by omega
        go_wp2_with fail
        go_ret
        exact ⟨rfl, by rw [hS.out]; exact hd.out _⟩
  · have hRf : R = false := by rw [← hR.out]; simp; intro e; exact hnm (hn.out.symm.trans ((congrArg List.length e).trans hm.out))
    subst hRf
    clear hR
    have hnmi : ¬ (n : Int) = m := by omega
    go_enter Tryd.func46, Tryd.ntmps46
    go_wp2_with fail
    go_ret
    exact ⟨rfl, below_two _ _ _⟩
end Go.Proofs.YtkedifhlkiffoaaDoor.Tree
/- Contract of the document's own Same. -/
namespace Go.Proofs.YtkedifhlkiffoaaDoor.Tree
open Go.ChangeShapes Go.WideShapes Go.ChangeAt Go.RowKit
set_option linter.unusedVariables false
set_option linter.unusedSimpArgs false
attribute [local go_sem] Oper.semAt_some
theorem two_boxes (w : World) (a1 a2 : Option Addr) (n m c1 c2 : Nat) (p q : Int) : PtBox w.heap.size (.slice a1 n c1) p ((w.alloc (.cells #[.slice a1 n c1, .int .i64 p] 25)).alloc (.cells #[.slice a2 m c2, .int .i64 q] 25)) ∧ PtBox (w.heap.size + 1) (.slice a2 m c2) q ((w.alloc (.cells #[.slice a1 n c1, .int .i64 p] 25)).alloc (.cells #[.slice a2 m c2, .int .i64 q] 25)) := by
  refine ⟨(PtBox.new w (.slice a1 n c1) p).later (kept_new _ _), ?_⟩
  have := PtBox.new (w.alloc (.cells #[.slice a1 n c1, .int .i64 p] 25)) (.slice a2 m c2) q
  rwa [World.size_alloc] at this
set_option maxRecDepth 100000 in
set_option maxHeartbeats 1000000 in
theorem refSame_L (a1 a2 : Option Addr) (n m c1 c2 : Nat) (L M : List (Sp × Value)) (p q : Int) (w : World) (hn : L.length = n) (hm : M.length = m) (hx1 : Short L) (hy1 : Short M) (h1 : SpsL w (.slice a1 n c1) L) (h2 : SpsL w (.slice a2 m c2) M) :
    Calls Tryd.prog 16 #[ptV (.slice a1 n c1) p, ptV (.slice a2 m c2) q] w fun e w' => e = .returned (.bool (decide (L.map (·.1) = M.map (·.1) ∧ p = q))) ∧ Below w.heap.size w w' := by
  have hnR : Hid ((L.map (·.1)).length = n) := by show _ = _; rw [List.length_map]; exact hn
  have hmR : Hid ((M.map (·.1)).length = m) := by show _ = _; rw [List.length_map]; exact hm
  obtain ⟨R, hR⟩ : ∃ R, decide (L.map (·.1) = M.map (·.1) ∧ p = q) = R := ⟨_, rfl⟩
  rw [hR]
  replace hR := Lib.hid hR
  have hbel := below_two w (.cells #[.slice a1 n c1, .int .i64 p] 25) (.cells #[.slice a2 m c2, .int .i64 q] 25)
  obtain ⟨hb1, hb2⟩ := two_boxes w a1 a2 n m c1 c2 p q
  replace hb1 := Lib.hid hb1
  replace hb2 := Lib.hid hb2
  have h10 := Lib.hid (h1.later hbel)
  have h20 := Lib.hid (h2.later hbel)
  replace hbel := Lib.hid hbel
  have hn1 : n ≤ 140737488351232 := by rw [← hn]; exact hx1.1
  have hm1 : m ≤ 140737488351232 := by rw [← hm]; exact hy1.1
  replace hx1 := Lib.hid hx1
  replace hy1 := Lib.hid hy1
  clear h1 h2
  replace hn := Lib.hid hn
  replace hm := Lib.hid hm
  by_cases hnm : n = m
  case neg =>
    have hRf : R = false := by rw [← hR.out]; simp only [decide_eq_false_iff_not]; rintro ⟨e, -⟩; rw [e] at hnR; exact hnm (hnR.out.symm.trans hmR.out)
    subst hRf
    clear hR
    have hnmi : ¬ (n : Int) = m := by omega
    go_enter Tryd.func16, Tryd.ntmps16
    go_wp2_with fail
    go_ret
    exact ⟨rfl, hbel.out⟩
  subst hnm
  by_cases hpq : p = q
  case neg =>
    have hRf : R = false := by rw [← hR.out]; simp only [decide_eq_false_iff_not]; rintro ⟨-, e⟩; exact hpq e
    subst hRf
    clear hR
    go_enter Tryd.func16, Tryd.ntmps16
    go_wp2_with fail
    go_ret
    exact ⟨rfl, hbel.out⟩
  subst hpq
  go_enter Tryd.func16, Tryd.ntmps16
  go_wp2_with fail
  generalize hS : w.heap.size = S at *
  generalize (w.alloc (.cells #[.slice a1 n c1, .int .i64 p] 25)).alloc (.cells #[.slice a2 n c2, .int .i64 p] 25) = w0 at *
  have hS0 : Hid (w.heap.size = S) := hS
  replace hbel := Lib.hid (show Below w.heap.size w w0 by rw [hS]; exact hbel.out)
  clear hS
  go_loopw [5] (fun t wr => ∃ i : Nat, i ≤ n ∧ t = .int .i64 i ∧ Hid (Below w0.heap.size w0 wr) ∧ Hid (∀ j, j < i → (L.map (·.1))[j]? = (M.map (·.1))[j]?)) (fun t _ => n - (intOf t).toNat)
  case atStart => exact ⟨0, Nat.zero_le _, rfl, Below.refl _ _, fun j hj => by omega⟩
  case round =>
    obtain ⟨i, hi, rfl, hwr, hall⟩ := hrel
    have k1 := (hb1.out.later hwr.out).c0
    have k2 := (hb2.out.later hwr.out).c0
    by_cases hlt : i < n
    · obtain ⟨⟨s, v⟩, hx⟩ := sps_i (L := L) (i := i) (by rw [hn.out]; exact hlt)
      obtain ⟨⟨t, u⟩, hy⟩ := sps_i (L := M) (i := i) (by rw [hm.out]; exact hlt)
      obtain ⟨b1, o1, rfl, x0, x1, x2, x3, x4, x5, hv⟩ := spsL_at (h10.out.later hwr.out) hn.out hx
      obtain ⟨b2, o2, rfl, y0, y1, y2, y3, y4, y5, hu⟩ := spsL_at (h20.out.later hwr.out) hm.out hy
      have hs1 := hx1.out.2 _ (List.mem_of_getElem? hx)
      have ht1 := hy1.out.2 _ (List.mem_of_getElem? hy)
      dsimp only at hs1 ht1
      obtain ⟨l3, hl3⟩ : ∃ l, s.cs.length = l := ⟨_, rfl⟩
      obtain ⟨l4, hl4⟩ : ∃ l, t.cs.length = l := ⟨_, rfl⟩
      obtain ⟨a3, c3, rfl⟩ := cps_lit hv hl3
      obtain ⟨a4, c4, rfl⟩ := cps_lit hu hl4
      clear hl3 hl4
      have hlti : (i : Int) < n := by omega
      have hne := Lib.hid (neq_at (map_fst hx) (map_fst hy))
      have hat := Lib.hid (at_eq (map_fst hx) (map_fst hy))
      have hC : Hid (Calls Tryd.prog 46 #[spV s (.slice a3 l3 c3), spV t (.slice a4 l4 c4)] wr.drew fun e w2 => e = .returned (.bool (decide (s = t))) ∧ Below wr.drew.heap.size wr.drew w2) :=
        refStep_any _ _ s t wr.drew hs1 ht1 (hv.later (Below.refl _ _).drew) (hu.later (Below.refl _ _).drew)
      clear hx hy hv hu hs1 ht1
      obtain ⟨B, hB⟩ : ∃ B, decide (s = t) = B := ⟨_, rfl⟩
      rw [hB] at hC
      cases B
      · have hRf : R = false := by rw [← hR.out]; simp only [decide_eq_false_iff_not]; rintro ⟨e, -⟩; exact hne.out (by simpa using hB) e
        subst hRf
        clear hR hB
        go_wp2_with fail
        go_region_with ((with_reducible refine hC.out.mono ?_); rintro e w1 ⟨rfl, hq⟩)
        all_goals
          have hB : Below w.heap.size w w1 := kept_trans hbel.out (kept_trans hwr.out ((Below.refl wr.heap.size wr).drew.trans hq))
          clear hq x0 x1 x2 x3 x4 x5 y0 y1 y2 y3 y4 y5
          go_wp2_with fail
          go_ret
          exact ⟨rfl, hB⟩
      · replace hat := Lib.hid (hat.out (by simpa using hB))
        clear hB
        go_wp2_with fail
        go_region_with ((with_reducible refine hC.out.mono ?_); rintro e w1 ⟨rfl, hq⟩)
        all_goals
          have hB : Hid (Below w0.heap.size w0 w1) := kept_trans hwr.out ((Below.refl wr.heap.size wr).drew.trans hq)
          clear hq x0 x1 x2 x3 x4 x5 y0 y1 y2 y3 y4 y5
          go_wp2_with fail
          exact ⟨⟨i + 1, by omega, by go_num, hB, all_succ hall.out hat.out⟩, by simp [intOf]; omega⟩
    · have hRt : R = true := by rw [← hR.out]; simp only [decide_eq_true_eq]; exact ⟨eq_all hnR.out hmR.out (i := i) (by omega) hall.out, trivial⟩
      subst hRt
      clear hR
      have hlti : ¬ (i : Int) < n := by omega
      go_wp2_with fail
      go_ret
      exact ⟨rfl, kept_trans hbel.out hwr.out⟩
end Go.Proofs.YtkedifhlkiffoaaDoor.Tree
/- A range over a function whose iterator tells a row that is known place by place, reads memory between two rounds, and has cells of one type of its own, which the rounds keep; no condition. -/
namespace Go.Proofs.YtkedifhlkiffoaaDoor.Tree
open Go.RowKit
set_option linter.unusedVariables false
/-- Cells of this type stay as they are. -/
def KeepsT (t : TypeId) (W W' : World) : Prop := ∀ (k : Nat) (cs : Array Value) (fz : Nat × Nat), W.heap[k]? = some (Obj.cells cs t fz) → W'.heap[k]? = some (Obj.cells cs t fz)
theorem KeepsT.refl (t : TypeId) (W : World) : KeepsT t W W := fun _ _ _ h => h
theorem KeepsT.trans {t : TypeId} {A B C : World} (h : KeepsT t A B) (k : KeepsT t B C) : KeepsT t A C := fun i cs fz hi => k i cs fz (h i cs fz hi)
theorem KeepsT.of_below {t : TypeId} {W W' : World} (h : Below W.heap.size W W') : KeepsT t W W' := fun k cs fz hk => (h.block k (Array.getElem?_eq_some_iff.1 hk).1).trans hk
theorem KeepsT.putObj {t : TypeId} {W : World} {l : Nat} {o : Obj} (o' : Obj) (hl : W.heap[l]? = some o) (ho : o.isCells = false) : KeepsT t W (W.putObj l o') := fun k cs fz hk => by
  by_cases e : k = l
  · subst e; rw [hl] at hk; cases hk; cases ho
  · exact (World.putObj_heap_other e).trans hk
theorem KeepsT.setCell {t u : TypeId} {W : World} {b o : Nat} {cs : Array Value} {fz : Nat × Nat} (v : Value) (h : W.heap[b]? = some (.cells cs u fz)) (hne : u ≠ t) : KeepsT t W (W.setCell ⟨b, o, none⟩ v) := fun k cs' fz' hk => by
  by_cases e : k = b
  · subst e; rw [h] at hk; cases hk; exact absurd rfl hne
  · exact (Below.heap_setCell W ⟨b, o, none⟩ v k e).trans hk
theorem KeepsT.grown {t : TypeId} {W W' : World} {row : Option Nat} (hg : W.grownBy W' row) (hrow : ∀ r, row = some r → ∃ o : Obj, W.heap[r]? = some o ∧ ∀ cs fz, o ≠ .cells cs t fz) : KeepsT t W W' := fun k cs fz hk => by
  refine (hg.block k (Array.getElem?_eq_some_iff.1 hk).1 fun e => ?_).trans hk
  obtain ⟨o, ho, hc⟩ := hrow k e.symm
  rw [ho] at hk; cases hk; exact hc _ _ rfl
variable {F : Fence} {n : Nat} {P : Program}
/-- How the body may be left at a place. -/
def rowPostT (B : Nat) (t : TypeId) (I : Nat → World → Prop) (Ix : Code → World → Prop) (k : Nat) (W : World) : Exit → Act → World → Prop
  | .normal, _, W' => KeepsFrom B W W' ∧ KeepsT t W W' ∧ I k W'
  | .ret, _, W' => KeepsFrom B W W' ∧ Ix .ret W'
  | .exit id, _, W' => KeepsFrom B W W' ∧ Ix (.exit id) W'
  | .goto t, _, W' => KeepsFrom B W W' ∧ Ix (.goto t) W'
  | .panic _, _, _ => False
  | .outgrown, _, _ => False
theorem grown_of_below {W W' : World} (h : Below W.heap.size W W') : W.grownBy W' none := ⟨h.os, h.tape, h.output, h.size, fun k hk _ => h.block k hk⟩
/-- The iterator gf at lb tells just the rows xs, in this order, until a round says no more (st: whether one may), as long as Kp is kept between two rounds, and cells of type t by each round. -/
def TellsRowT (st : Prop) (F : Fence) (n : Nat) (P : Program) (gf : Nat) (lb : Array Value) (Kp : World → Prop) (t : TypeId) (xs : List (Array Value)) (w : World) : Prop :=
  ∀ (l : Nat) (J Jx : Nat → World → Prop) (W : World), Below w.heap.size w W → (∀ k W1, J k W1 → Kp W1) → (∀ k W1 W2, J k W1 → Below W1.heap.size W1 W2 → J k W2) →
    (∀ k, k < xs.length → ∀ W1, J k W1 → YieldAt F (n - 1) P l (xs[k]?.getD #[]) W1 fun e W' =>
      (e = .returned (.bool true) ∧ KeepsT t W1 W' ∧ J (k + 1) W') ∨ (st ∧ e = .returned (.bool false) ∧ Jx (k + 1) W')) →
    J 0 W →
    CallsIn F n P gf (#[.func (.yield l) #[] #[]] ++ lb) W fun e W' => (∃ v, e = .returned v) ∧ (J xs.length W' ∨ ∃ k, Jx k W')
theorem wpIn_rangeFunc_rowT {g : Operand} {ps : Array Tmp} {assign body : Code} {Q : Exit → Act → World → Prop} {a : Act} {w : World}
    (hro : F.round = none) (h1 : 1 ≤ n) {gf : Nat} {lb : Array Value} (hg : a.eval g = .func (.func gf) #[] lb) (hFg : F.fn gf) (eg : ∀ args w, (callFunc gf args).run P w = .ok (.enter gf args) w)
    {st : Prop} {Kp : World → Prop} {t : TypeId} {xs : List (Array Value)} {w0 : World} (hseq : TellsRowT st F (n - 1) P gf lb Kp t xs w0) (hb0 : Below w0.heap.size w0 w) (hps : ∀ k, k < xs.length → (xs[k]?.getD #[]).size = ps.size)
    (I : Nat → World → Prop) (Ix : Code → World → Prop) (hI : OwnFrom w.heap.size I) (hIx : OwnFrom w.heap.size Ix) (hKp : ∀ k W, I k W → Kp W) (hst : ∀ c W, Ix c W → st) (h0 : I 0 w)
    (Ax : Nat → Act → World → Prop) (hAx : ∀ k a', OwnFrom w.heap.size (fun (_ : Unit) W => Ax k a' W))
    (hassign : ∀ (l k : Nat) (W : World) (K : Act → World → Prop), k < xs.length → I k W → (∀ a' W', KeepsFrom w.heap.size W W' → KeepsT t W W' → I k W' → Ax k a' W' → K a' W') →
      assign.wpIn (F.inRound l) (n - 1 - 1) P (Exit.then K (fun _ _ _ => False)) { tmps := (ps.zip (xs[k]?.getD #[])).foldl (fun t (p, v) => t.setIfInBounds p v) a.tmps, defers := [] } W)
    (hbody : ∀ (l k : Nat) (a' : Act) (W : World), k < xs.length → I k W → Ax k a' W → body.wpIn (F.inRound l) (n - 1 - 1) P (rowPostT w.heap.size t I Ix (k + 1) W) a' W)
    (hdone : ∀ (D : Nat) (W : World), w.heap.size ≤ D → I xs.length W → W.heap[D]? = some (.deferred (some [])) → Q .normal { a with defers := { target := .collected D, args := #[] } :: a.defers } W)
    (hstop : ∀ (D : Nat) (c : Code) (W : World), w.heap.size ≤ D → Ix c W → W.heap[D]? = some (.deferred (some [])) → c.wpIn F n P Q { a with defers := { target := .collected D, args := #[] } :: a.defers } W) :
    (Code.rangeFunc g ps assign body).wpIn F n P Q a w := by
  refine wpIn_rangeFunc fun fn hfn => ?_
  rw [hro]
  have hD : (w.alloc (.deferred (some []))).heap[w.heap.size]? = some (.deferred (some [])) := World.alloc_heap_new w _
  generalize hlp : (fun st pe => ({ state := st, pending := pe, fn, tmps := a.tmps, params := ps, assign, body, defers := w.heap.size } : Loop)) = lp
  have hlpe : ∀ st pe, lp st pe = { state := st, pending := pe, fn, tmps := a.tmps, params := ps, assign, body, defers := w.heap.size } := fun st pe => by rw [← hlp]
  have hrun := run_enterLoop_outer (P := P) (w := w) fn a.tmps ps assign body
  rw [← hlpe .ready none] at hrun
  have hbel : Below w0.heap.size w0 ((w.alloc (.deferred (some []))).alloc (.loop (lp .ready none))) :=
    hb0.trans ((((Below.refl _ w).alloc (Nat.le_refl _) _).alloc (by simp) _).mono hb0.size)
  have hl0 : ((w.alloc (.deferred (some []))).alloc (.loop (lp .ready none))).heap[w.heap.size + 1]? = some (.loop (lp .ready none)) := by
    have := World.alloc_heap_new (w.alloc (.deferred (some []))) (.loop (lp .ready none)); rwa [World.size_alloc] at this
  have hd0 : ((w.alloc (.deferred (some []))).alloc (.loop (lp .ready none))).heap[w.heap.size]? = some (.deferred (some [])) := (Below.heap_alloc _ _ _ (by simp)).trans hD
  have hi0 : I 0 ((w.alloc (.deferred (some []))).alloc (.loop (lp .ready none))) := hI.alloc _ (hI.alloc _ h0)
  clear hD
  generalize (w.alloc (.deferred (some []))).alloc (.loop (lp .ready none)) = V at *
  refine ⟨w.heap.size + 1, [{ target := .collected w.heap.size, args := #[] }], V, { target := .fn (.func gf) lb, args := #[.func (.yield (w.heap.size + 1)) #[] #[]] }, V, gf,
    #[.func (.yield (w.heap.size + 1)) #[] #[]] ++ lb, V, hrun, ?_, ?_, ?_, fun _ => h1, ?_⟩
  · simp only [resolve, hg]
    simp [go_sem]
  · intro f' hf'
    simp [Target.leads] at hf'
    exact hf' ▸ hFg
  · simp [invoke, go_sem, eg]
  refine (hseq (w.heap.size + 1)
    (fun k W => I k W ∧ W.heap[w.heap.size + 1]? = some (.loop (lp .ready none)) ∧ W.heap[w.heap.size]? = some (.deferred (some [])))
    (fun _ W => ∃ c, Ix c W ∧ W.heap[w.heap.size + 1]? = some (.loop (lp .done (some c))) ∧ W.heap[w.heap.size]? = some (.deferred (some [])))
    V hbel (fun k W h => hKp k W h.1) (fun k W W2 h hb => ⟨hI k W W2 none h.1 (grown_of_below hb) (fun r e => by cases e), (hb.block _ (Array.getElem?_eq_some_iff.1 h.2.1).1).trans h.2.1, (hb.block _ (Array.getElem?_eq_some_iff.1 h.2.2).1).trans h.2.2⟩) ?round ⟨hi0, hl0, hd0⟩).mono ?behind
  case round =>
    rintro k hk W0 ⟨hi, hl, hd⟩
    have hy := run_yield (P := P) (args := xs[k]?.getD #[]) hl (by rw [hlpe]; exact hps k hk)
    rw [hlpe] at hy
    refine ⟨fn, _, assign, body, hy, roundIn_of_wpIn hfn (hassign _ k W0 _ hk hi ?_)⟩
    intro a' W hkf hkt hia hax
    replace hl := hkf.same _ _ (by omega) hl rfl
    replace hd := hkf.same _ _ (Nat.le_refl _) hd rfl
    clear hi hkf hy
    have hi := hia
    refine ⟨_, run_beginRound hl (by rw [hlpe]), ?_⟩
    have hlt := (Array.getElem?_eq_some_iff.1 hl).1
    have hl' := World.putObj_heap_same (w := W) (o := .loop { lp .ready none with state := .busy }) hlt
    have hd' : (W.putObj (w.heap.size + 1) (.loop { lp .ready none with state := .busy })).heap[w.heap.size]? = some (.deferred (some [])) := (World.putObj_heap_other (by omega)).trans hd
    have hi' := hI.putObj (.loop { lp .ready none with state := .busy }) hi (by omega) hl rfl
    have hax' := (hAx k a').putObj (s := ()) (.loop { lp .ready none with state := .busy }) hax (by omega) hl rfl
    have hkt' := hkt.trans (KeepsT.putObj (.loop { lp .ready none with state := .busy }) hl rfl)
    generalize W.putObj (w.heap.size + 1) (.loop { lp .ready none with state := .busy }) = W2 at *
    -- the round's end: the record is laid anew, the rest stays
    have ends : ∀ (jump : Option Code) (W3 : World), KeepsFrom w.heap.size W2 W3 → ∃ W4, (Instr.endRound (w.heap.size + 1) jump).run P W3 = .ok (.bool jump.isNone) W4 ∧
        W4.heap[w.heap.size + 1]? = some (.loop (lp (if jump.isNone then .ready else .done) jump)) ∧ W4.heap[w.heap.size]? = some (.deferred (some [])) ∧
        (∀ k, I k W3 → I k W4) ∧ (∀ c, Ix c W3 → Ix c W4) ∧ KeepsT t W3 W4 := fun jump W3 hk3 => by
      have h3 := hk3.same _ _ (by omega) hl' rfl
      have h3d := hk3.same _ _ (Nat.le_refl _) hd' rfl
      have hr := run_endRound (P := P) jump h3
      refine ⟨_, hr, ?_, (World.putObj_heap_other (by omega)).trans h3d, fun k h => hI.putObj _ h (by omega) h3 rfl, fun c h => hIx.putObj _ h (by omega) h3 rfl, KeepsT.putObj _ h3 rfl⟩
      rw [World.putObj_heap_same (Array.getElem?_eq_some_iff.1 h3).1, hlpe, hlpe]
    refine wpIn_mono (hbody _ k a' W2 hk hi' hax') ?_
    rintro e a3 W3 hp
    cases e with
    | normal => obtain ⟨W4, hr, hl4, hd4, hI4, _, hT4⟩ := ends none W3 hp.1; exact ⟨_, _, hr, .inl ⟨rfl, hkt'.trans (hp.2.1.trans hT4), hI4 _ hp.2.2, hl4, hd4⟩⟩
    | ret => obtain ⟨W4, hr, hl4, hd4, _, hX4, _⟩ := ends (some .ret) W3 hp.1; exact ⟨_, _, hr, .inr ⟨hst _ _ hp.2, rfl, _, hX4 _ hp.2, hl4, hd4⟩⟩
    | exit id => obtain ⟨W4, hr, hl4, hd4, _, hX4, _⟩ := ends (some (.exit id)) W3 hp.1; exact ⟨_, _, hr, .inr ⟨hst _ _ hp.2, rfl, _, hX4 _ hp.2, hl4, hd4⟩⟩
    | goto t => obtain ⟨W4, hr, hl4, hd4, _, hX4, _⟩ := ends (some (.goto t)) W3 hp.1; exact ⟨_, _, hr, .inr ⟨hst _ _ hp.2, rfl, _, hX4 _ hp.2, hl4, hd4⟩⟩
    | panic ch => exact hp.elim
    | outgrown => exact hp.elim
  case behind =>
    rintro e W2 ⟨⟨v, rfl⟩, ⟨hi, hl, hd⟩ | ⟨_, c, hi, hl, hd⟩⟩
    · have hr := run_endLoop (P := P) hl (by rw [hlpe]; simp)
      rw [hlpe] at hr
      exact ⟨none, _, hr, hdone _ _ (Nat.le_refl _) (hI.putObj _ hi (by omega) hl rfl) ((World.putObj_heap_other (by omega)).trans hd)⟩
    · have hr := run_endLoop (P := P) hl (by rw [hlpe]; simp)
      rw [hlpe] at hr
      exact ⟨some c, _, hr, hstop _ c _ (Nat.le_refl _) (hIx.putObj _ hi (by omega) hl rfl) ((World.putObj_heap_other (by omega)).trans hd)⟩
end Go.Proofs.YtkedifhlkiffoaaDoor.Tree
/- Contracts of namesOf and of the iterator that it hands back. -/
namespace Go.Proofs.YtkedifhlkiffoaaDoor.Tree
open Go.ChangeShapes Go.WideShapes Go.ChangeAt Go.RowKit
set_option linter.unusedVariables false
set_option linter.unusedSimpArgs false
attribute [local go_sem] Oper.semAt_some
/-- A term in a box. -/
def TmBox (p : Nat) (t : Tm) (w : World) : Prop := w.heap[p]? = some (.cells #[.int .u8 t.k, .int .i64 t.n, .int .i64 t.s, .int .i64 t.r] 46 (0, 0))
theorem TmBox.new (w : World) (t : Tm) : TmBox w.heap.size t (w.alloc (.cells #[.int .u8 t.k, .int .i64 t.n, .int .i64 t.s, .int .i64 t.r] 46)) := World.alloc_heap_new w _
theorem TmBox.lt {p : Nat} {t : Tm} {w : World} (h : TmBox p t w) : p < w.heap.size := (Array.getElem?_eq_some_iff.1 h).1
theorem TmBox.later {p : Nat} {t : Tm} {w w' : World} (h : TmBox p t w) (hb : Below w.heap.size w w') : TmBox p t w' := (hb.block _ h.lt).trans h
theorem TmBox.c {p : Nat} {t : Tm} {w : World} (h : TmBox p t w) : w.cell? ⟨p, 0, none⟩ = some (.int .u8 t.k) ∧ w.cell? ⟨p, 1, none⟩ = some (.int .i64 t.n) ∧ w.cell? ⟨p, 2, none⟩ = some (.int .i64 t.s) ∧ w.cell? ⟨p, 3, none⟩ = some (.int .i64 t.r) := by
  unfold TmBox at h
  refine ⟨?_, ?_, ?_, ?_⟩ <;> simp [World.cell?, h]
/-- Two numbers in an array. -/
def ArBox (p : Nat) (a b : Int) (w : World) : Prop := w.heap[p]? = some (.cells #[.int .i64 a, .int .i64 b] 141 (0, 0))
theorem ArBox.c {p : Nat} {a b : Int} {w : World} (h : ArBox p a b w) : w.cell? ⟨p, 0, none⟩ = some (.int .i64 a) ∧ w.cell? ⟨p, 1, none⟩ = some (.int .i64 b) := by
  unfold ArBox at h
  refine ⟨?_, ?_⟩ <;> simp [World.cell?, h]
def nameRow (t : Tm) : List (Array Value) := (namesT t).map fun x => #[.int .i64 x]
theorem nameRow_len (t : Tm) : (nameRow t).length = (namesT t).length := by simp [nameRow]
theorem names_len (t : Tm) : (namesT ⟨t.k, 0, 0, 0⟩).length = (namesT t).length := by
  unfold namesT; split; rfl; split <;> rfl
theorem names_le (t : Tm) : (namesT t).length ≤ 2 := by
  unfold namesT; split; simp; split <;> simp
theorem names_at (t : Tm) (j : Nat) (h : j < (namesT t).length) : (j = 0 ∧ (nameRow t)[j]?.getD #[] = #[.int .i64 t.s] ∧ (namesT t)[j]? = some t.s) ∨ (j = 1 ∧ (nameRow t)[j]?.getD #[] = #[.int .i64 t.r] ∧ (namesT t)[j]? = some t.r) := by
  unfold nameRow namesT at *
  split at h
  · simp at h
  · rename_i h0
    simp only [h0, if_false]
    split at h
    · rename_i h5
      simp only [h5, if_true]
      match j, h with
      | 0, _ => left; simp
      | 1, _ => right; simp
    · rename_i h5
      simp only [h5, if_false]
      match j, h with
      | 0, _ => left; simp
set_option maxHeartbeats 400000 in
theorem namesOf_any (t : Tm) (w : World) :
    Calls Tryd.prog 103 #[tmV t] w fun e w' => e = .returned (.func (.func 115) #[] #[.pointer (some ⟨w.heap.size, 0, none⟩)]) ∧ w' = w.alloc (.cells #[.int .u8 t.k, .int .i64 t.n, .int .i64 t.s, .int .i64 t.r] 46) := by
  go_enter Tryd.func103, Tryd.ntmps103
  go_wp2
  go_ret
  exact ⟨rfl, rfl⟩
set_option maxRecDepth 100000 in
set_option maxHeartbeats 1000000 in
theorem names_tells (n B : Nat) (hn : 1 ≤ n) (t : Tm) (w : World) :
    TellsRowT True Fence.wide n Tryd.prog 115 #[.pointer (some ⟨B, 0, none⟩)] (TmBox B t) 141 (nameRow t) w := by
  intro l J Jx W hW hK hDr hY h0
  clear hW
  rw [nameRow_len] at *
  have hml := names_le t
  have hH := Lib.hid (fun w => howMany_any t.k w)
  rw [names_len] at hH
  have hat := Lib.hid (names_at t)
  replace hY := Lib.hid hY
  replace hDr := Lib.hid hDr
  replace hK := Lib.hid hK
  generalize (namesT t).length = m at *
  obtain ⟨d0, -⟩ := ((hK.out _ _ h0).later (kept_new W (.cells #[.int .i64 t.s, .int .i64 t.r] 141))).c
  obtain ⟨c0, c1, c2, c3⟩ := (hK.out _ _ h0).c
  refine callsIn_of_wp Tryd.func115 rfl trivial ?_ rfl
  simp only [Tryd.ntmps115, List.size_toArray, List.length_cons, List.length_nil, Nat.reduceAdd, Nat.reduceSub, Array.replicate_succ, Array.replicate_zero, List.push_toArray, List.append_toArray, List.nil_append, List.cons_append]
  gi_wp2_with fail
  refine ⟨trivial, ((callsIn_wide (n := n - 1)).2 (hH.out _)).mono ?_⟩
  rintro e w1 ⟨rfl, rfl⟩
  have hb := kept_new W (.cells #[.int .i64 t.s, .int .i64 t.r] 141)
  have hA : ArBox W.heap.size t.s t.r (W.alloc (.cells #[.int .i64 t.s, .int .i64 t.r] 141)) := World.alloc_heap_new W _
  have h1 := hDr.out _ _ _ h0 hb
  clear h0 hb c0 c1 c2 c3 d0
  generalize W.alloc (.cells #[.int .i64 t.s, .int .i64 t.r] 141) = W1 at *
  generalize W.heap.size = A at *
  have hm2 : (m : Int) ≤ 2 := by omega
  gi_wp2_with fail
  gi_loopw [16] (fun u wr => ∃ j : Nat, j ≤ m ∧ u = .int .i64 j ∧ ArBox A t.s t.r wr ∧ J j wr) (fun u _ => m - (intOf u).toNat)
  case atStart => exact ⟨0, Nat.zero_le _, rfl, hA, h1⟩
  case round =>
    clear hA h1 hDr hK
    obtain ⟨j, hj, rfl, hA, hJs⟩ := hrel
    obtain ⟨a0, a1⟩ := hA.c
    by_cases hlt : j < m
    · have hlti : (j : Int) < m := by omega
      have hYj := hY.out j hlt wr hJs
      have hfin : Hid (∀ W', KeepsT 141 wr W' → ArBox A t.s t.r W') := fun W' hk => hk _ _ _ hA
      clear hA
      rcases hat.out j hlt with ⟨rfl, e, -⟩ | ⟨rfl, e, -⟩
      all_goals
        rw [e] at hYj
        obtain ⟨fn, tmps, assign, body, hy, hR⟩ := hYj
        clear e
        gi_wp2
        refine hR.mono ?_
        rintro e W3 (⟨rfl, hkt, hJ3⟩ | ⟨-, rfl, hJx3⟩)
        · gi_wp2
          go_roundw
          case rel => exact ⟨_, hlt, by go_num, hfin.out _ hkt, hJ3⟩
          case measure => simp [intOf]; omega
        · gi_wp2
          refine bodyPost_ret (results_none rfl _ _ _) rfl ?_
          exact ⟨⟨_, rfl⟩, .inr ⟨_, hJx3⟩⟩
    · obtain rfl : j = m := by omega
      gi_wp2
      go_end0
      exact ⟨⟨_, rfl⟩, .inl hJs⟩
end Go.Proofs.YtkedifhlkiffoaaDoor.Tree
/- Contracts of termsOf and of the iterator that it hands back. -/
namespace Go.Proofs.YtkedifhlkiffoaaDoor.Tree
open Go.ChangeShapes Go.WideShapes Go.ChangeAt Go.RowKit
set_option linter.unusedVariables false
set_option linter.unusedSimpArgs false
attribute [local go_sem] Oper.semAt_some
/-- The terms of comparisons, in order. -/
def termsC (cs : List Cp) : List Tm := cs.flatMap fun c => [c.l, c.r]
theorem flat_len {α β : Type} (k : Nat) (f : α → List β) (hf : ∀ x, (f x).length = k) (l : List α) : (l.flatMap f).length = l.length * k := by
  induction l with
  | nil => simp
  | cons x r ih => rw [List.flatMap_cons, List.length_append, ih, hf, List.length_cons, Nat.succ_mul]; omega
theorem flat_at' {α β : Type} (k : Nat) (f : α → List β) (hf : ∀ x, (f x).length = k) (l : List α) (i : Nat) (x : α) (h : l[i]? = some x) (j : Nat) (hj : j < k) : (l.flatMap f)[i * k + j]? = (f x)[j]? := by
  induction l generalizing i with
  | nil => simp at h
  | cons y r ih =>
    rw [List.flatMap_cons]
    cases i with
    | zero =>
      simp at h; subst h
      rw [Nat.zero_mul, Nat.zero_add, List.getElem?_append_left (by rw [hf]; exact hj)]
    | succ i =>
      rw [List.getElem?_append_right (by rw [hf, Nat.succ_mul]; omega), hf, show (i + 1) * k + j - k = i * k + j by rw [Nat.succ_mul]; omega]
      exact ih i (by simpa using h)
theorem termsC_len (cs : List Cp) : (termsC cs).length = cs.length * 2 := flat_len 2 _ (fun _ => rfl) cs
theorem termsC_at {cs : List Cp} {i : Nat} {x : Cp} (h : cs[i]? = some x) : (termsC cs)[i * 2]? = some x.l ∧ (termsC cs)[i * 2 + 1]? = some x.r :=
  ⟨flat_at' 2 (fun c : Cp => [c.l, c.r]) (fun _ => rfl) cs i x h 0 (by omega), flat_at' 2 (fun c : Cp => [c.l, c.r]) (fun _ => rfl) cs i x h 1 (by omega)⟩
def termRow (cs : List Cp) : List (Array Value) := (termsC cs).map fun t => #[tmV t]
theorem termRow_len (cs : List Cp) : (termRow cs).length = cs.length * 2 := by simp [termRow, termsC_len]
theorem termRow_at {cs : List Cp} {i : Nat} {x : Cp} (h : cs[i]? = some x) : (termRow cs)[i * 2]?.getD #[] = #[tmV x.l] ∧ (termRow cs)[i * 2 + 1]?.getD #[] = #[tmV x.r] := by
  obtain ⟨h1, h2⟩ := termsC_at h
  unfold termRow
  exact ⟨by rw [List.getElem?_map, h1]; rfl, by rw [List.getElem?_map, h2]; rfl⟩
theorem termsOf_any (s : Sp) (a : Option Addr) (n c : Nat) (w : World) :
    Calls Tryd.prog 96 #[spV s (.slice a n c)] w fun e w' => e = .returned (.func (.func 112) #[] #[.pointer (some ⟨w.heap.size, 0, none⟩)]) ∧ w' = w.alloc (.cells #[.bool s.neg, .int .i64 s.kind, .int .i64 s.min, .int .i64 s.max, .bool s.strict, .slice a n c] 39) := by
  go_enter Tryd.func96, Tryd.ntmps96
  go_wp2
  go_ret
  exact ⟨rfl, rfl⟩
set_option maxRecDepth 100000 in
set_option maxHeartbeats 1000000 in
theorem terms_tells (N B : Nat) (hN : 1 ≤ N) (s : Sp) (a : Option Addr) (n c : Nat) (hn : n ≤ 140737488351232) (w : World) :
    TellsRowT True Fence.wide N Tryd.prog 112 #[.pointer (some ⟨B, 0, none⟩)] (SpIn B s a n c) 48 (termRow s.cs) w := by
  intro l J Jx W hW hK hDr hY h0
  clear hW
  rw [termRow_len] at *
  obtain ⟨m, hm⟩ : ∃ m, s.cs.length = m := ⟨_, rfl⟩
  have hmn : m = n := hm.symm.trans (hK _ _ h0).2.1
  subst hmn
  have hm' := Lib.hid hm
  simp only [hm] at hY ⊢
  clear hm
  replace hY := Lib.hid hY
  replace hDr := Lib.hid hDr
  replace hK := Lib.hid hK
  have k0 : W.cell? ⟨B, 5, none⟩ = some (.slice a m c) := by
    have h := (hK.out _ _ h0).1
    unfold SpBox at h
    simp [World.cell?, h]
  refine callsIn_of_wp Tryd.func112 rfl trivial ?_ rfl
  simp only [Tryd.ntmps112, List.size_toArray, List.length_cons, List.length_nil, Nat.reduceAdd, Nat.reduceSub, Array.replicate_succ, Array.replicate_zero, List.push_toArray, List.append_toArray, List.nil_append, List.cons_append]
  gi_wp2_with fail
  clear k0
  gi_loopw [8] (fun u wr => ∃ j : Nat, j ≤ m ∧ u = .int .i64 j ∧ J (j * 2) wr) (fun u _ => m - (intOf u).toNat)
  case atStart => exact ⟨0, Nat.zero_le _, rfl, by simpa using h0⟩
  case round =>
    clear h0
    obtain ⟨j, hj, rfl, hJs⟩ := hrel
    by_cases hlt : j < m
    · have hlti : (j : Int) < m := by omega
      obtain ⟨x, hx⟩ : ∃ x, s.cs[j]? = some x := ⟨_, List.getElem?_eq_getElem (by rw [hm'.out]; exact hlt)⟩
      obtain ⟨b, o, rfl, z0, z1, z2, z3, z4, z5, z6, z7, z8⟩ := (hK.out _ _ hJs).cmp hx
      obtain ⟨r0, r1⟩ := termRow_at hx
      have hb := kept_new wr (.cells #[.int .u8 x.op, .int .u8 x.l.k, .int .i64 x.l.n, .int .i64 x.l.s, .int .i64 x.l.r, .int .u8 x.r.k, .int .i64 x.r.n, .int .i64 x.r.s, .int .i64 x.r.r] 48)
      have hJ1 := hDr.out _ _ _ hJs hb
      have hcp := CpBox.new wr x
      have Y0 := hY.out (j * 2) (by omega) _ hJ1
      have Y1 := Lib.hid (hY.out (j * 2 + 1) (by omega))
      rw [r0] at Y0
      rw [r1] at Y1
      clear r0 r1 hb hDr hJs hx
      obtain ⟨q0, q1, q2, q3, q4, q5, q6, q7, q8⟩ := hcp.cells
      obtain ⟨fn, tmps, assign, body, hy, hR⟩ := Y0
      gi_wp2
      refine hR.mono ?_
      clear hR hy
      generalize wr.alloc (.cells #[.int .u8 x.op, .int .u8 x.l.k, .int .i64 x.l.n, .int .i64 x.l.s, .int .i64 x.l.r, .int .u8 x.r.k, .int .i64 x.r.n, .int .i64 x.r.s, .int .i64 x.r.r] 48) = W1 at *
      generalize wr.heap.size = S at *
      clear z0 z1 z2 z3 z4 z5 z6 z7 z8
      rintro e W3 (⟨rfl, hkt, hJ3⟩ | ⟨-, rfl, hJx3⟩)
      · have hcp3 : CpBox S x W3 := hkt _ _ _ hcp
        clear hcp hkt q0 q1 q2 q3 q4 q5 q6 q7 q8 hJ1
        obtain ⟨q0, q1, q2, q3, q4, q5, q6, q7, q8⟩ := hcp3.cells
        obtain ⟨fn, tmps, assign, body, hy, hR⟩ := Y1.out _ hJ3
        gi_wp2
        refine hR.mono ?_
        rintro e W4 (⟨rfl, hkt, hJ4⟩ | ⟨-, rfl, hJx4⟩)
        · gi_wp2
          go_roundw
          case rel => exact ⟨j + 1, hlt, by go_num, by rw [Nat.succ_mul]; exact hJ4⟩
          case measure => simp [intOf]; omega
        · gi_wp2
          refine bodyPost_ret (results_none rfl _ _ _) rfl ?_
          exact ⟨⟨_, rfl⟩, .inr ⟨_, hJx4⟩⟩
      · gi_wp2
        refine ⟨fun f hf => (by cases hf), ?_⟩
        gi_wp2
        refine bodyPost_ret (results_none rfl _ _ _) rfl ?_
        exact ⟨⟨_, rfl⟩, .inr ⟨_, hJx3⟩⟩
    · obtain rfl : j = m := by omega
      gi_wp2
      go_end0
      exact ⟨⟨_, rfl⟩, .inl hJs⟩
end Go.Proofs.YtkedifhlkiffoaaDoor.Tree
/- Rows of numbers that a loop over a function lays, one by one; contract of tree.Names. -/
namespace Go.Proofs.YtkedifhlkiffoaaDoor.Tree
open Go.ChangeShapes Go.WideShapes Go.ChangeAt Go.RowKit
set_option linter.unusedVariables false
set_option linter.unusedSimpArgs false
attribute [local go_sem] Oper.semAt_some
theorem row_kept {W W' : World} {base : Nat} {e : TypeId} {size n : Nat} {v : Value} {xs : List Value} {row : Option Nat} (h : W.ownsRow base e size v n xs) (hg : W.grownBy W' row) (hrow : ∀ r, row = some r → ∃ o : Obj, W.heap[r]? = some o ∧ ∀ cs fz, o ≠ .cells cs e fz) : W'.ownsRow base e size v n xs := by
  refine h.kept hg ?_
  rcases h.2 with ⟨rfl, _⟩ | ⟨g, cap, cur, rfl, _, hgb, _⟩
  · exact .inl rfl
  · refine .inr fun e' => ?_
    obtain ⟨o, ho, hc⟩ := hrow g (by simpa [Value.ownBlock] using e'.symm)
    rw [hgb] at ho; cases ho; exact hc _ _ rfl
theorem row_later {W W' : World} {base : Nat} {e : TypeId} {size n : Nat} {v : Value} {xs : List Value} (h : W.ownsRow base e size v n xs) (hb : Below W.heap.size W W') : W'.ownsRow base e size v n xs :=
  row_kept h (grown_of_below hb) (fun r e => by cases e)
theorem row_base {W : World} {base b : Nat} {e : TypeId} {size n : Nat} {v : Value} {xs : List Value} (h : W.ownsRow base e size v n xs) (hb : b ≤ base) : W.ownsRow b e size v n xs := by
  refine ⟨h.1, ?_⟩
  rcases h.2 with h2 | ⟨g, cap, cur, e1, e2, e3⟩
  · exact .inl h2
  · exact .inr ⟨g, cap, cur, e1, Nat.le_trans hb e2, e3⟩
theorem grownBy_setCell_any (W : World) (b o : Nat) (v : Value) : W.grownBy (W.setCell ⟨b, o, none⟩ v) (some b) :=
  ⟨rfl, rfl, rfl, (KeepsWalks.setCell W _ v).size, fun k _ hk => Below.heap_setCell _ _ _ k (fun e => hk (by rw [e]))⟩
theorem no_cells {o : Obj} (h : o.isCells = false) (t : TypeId) : ∀ cs fz, o ≠ .cells cs t fz := by
  rintro cs fz rfl; cases h
theorem own_is {W : World} {base : Nat} {e : TypeId} {size n : Nat} {v : Value} {xs : List Value} (h : W.ownsRow base e size v n xs) (t : TypeId) (ht : t ≠ e) : ∀ r, v.ownBlock = some r → ∃ o : Obj, W.heap[r]? = some o ∧ ∀ cs fz, o ≠ .cells cs t fz := by
  intro r hr
  rcases h.2 with ⟨rfl, _⟩ | ⟨g, cap, cur, rfl, _, hgb, _⟩
  · simp [Value.ownBlock] at hr
  · obtain rfl : g = r := by simpa [Value.ownBlock] using hr
    exact ⟨_, hgb, by rintro cs fz ⟨⟩; exact ht rfl⟩
theorem box_is {W : World} {B : Nat} {t : TypeId} {v : Value} (h : Boxed W B t v) (u : TypeId) (ht : u ≠ t) : ∀ r, some B = some r → ∃ o : Obj, W.heap[r]? = some o ∧ ∀ cs fz, o ≠ .cells cs u fz := by
  intro r e
  cases e
  exact ⟨_, h, by rintro cs fz ⟨⟩; exact ht rfl⟩
theorem boxed_far {W : World} {B D : Nat} {t : TypeId} {v : Value} (h : Boxed W B t v) (hne : B ≠ D) (o : Nat) (u : Value) : Boxed (W.setCell ⟨D, o, none⟩ u) B t v := (Below.heap_setCell W ⟨D, o, none⟩ u B hne).trans h
theorem keeps_of_below {B : Nat} {W W' : World} (h : Below W.heap.size W W') : KeepsFrom B W W' :=
  ⟨h.size, fun k o _ hk _ => (h.block k (Array.getElem?_eq_some_iff.1 hk).1).trans hk⟩
theorem ownFrom_block {β : Type} (p : Nat) (cs : β → Array Value) (t : TypeId) (B : Nat) : OwnFrom B (fun (s : β) (W : World) => W.heap[p]? = some (.cells (cs s) t (0, 0))) := by
  intro s X Y row h hg hrow
  refine (hg.block p (Array.getElem?_eq_some_iff.1 h).1 (fun e => ?_)).trans h
  obtain ⟨-, o, ho, hc⟩ := hrow p e.symm
  rw [h] at ho; cases ho; cases hc
abbrev ints (l : List Int) : List Value := l.map fun x => Value.int .i64 x
/-- A row of numbers in a box at S + 1, what is read in a box at S + 2. -/
def NmIn (w : World) (xs : List Int) (tb : TypeId) (cs : Array Value) (k : Nat) (W : World) : Prop :=
  ∃ v, Boxed W (w.heap.size + 1) 96 v ∧ W.ownsRow w.heap.size 3 1 v k (ints (xs.take k)) ∧ W.heap[w.heap.size + 2]? = some (.cells cs tb (0, 0)) ∧ Below w.heap.size w W
theorem NmIn.own (w : World) (xs : List Int) (tb : TypeId) (cs : Array Value) (B : Nat) (hB : w.heap.size ≤ B) : OwnFrom B (NmIn w xs tb cs) := by
  rintro k X Y row ⟨v, h1, h2, h3, h4⟩ hg hrow
  have hrow' : ∀ r, row = some r → ∃ o : Obj, X.heap[r]? = some o ∧ o.isCells = false := fun r e => (hrow r e).2
  refine ⟨v, boxed_own (w.heap.size + 1) 96 (fun _ : Unit => v) () X Y row h1 hg hrow', row_kept h2 hg (fun r e => ?_), ownFrom_block _ (fun _ : Unit => cs) tb B () X Y row h3 hg hrow, ownFrom_below (Nat.le_refl _) hB k X Y row h4 hg hrow⟩
  obtain ⟨o, ho, hc⟩ := hrow' r e
  exact ⟨o, ho, no_cells hc 3⟩
theorem NmIn.made (w : World) (xs : List Int) (ta tb : TypeId) (ca cs : Array Value) : NmIn w xs tb cs 0 (((w.alloc (.cells ca ta)).alloc (.cells #[.slice none 0 0] 96)).alloc (.cells cs tb)) := by
  refine ⟨.slice none 0 0, ?_, by simpa using World.ownsRow_nil _ _ _ _, ?_, ((((Below.refl _ w).alloc (Nat.le_refl _) _).alloc (by simp) _).alloc (by simp; omega) _)⟩
  · have := (Boxed.new (w.alloc (.cells ca ta)) 96 (.slice none 0 0)).alloc (.cells cs tb)
    rwa [World.size_alloc] at this
  · have := World.alloc_heap_new ((w.alloc (.cells ca ta)).alloc (.cells #[.slice none 0 0] 96)) (.cells cs tb)
    simpa using this
/-- What an append brings. -/
def NmStep (w W : World) (xs : List Int) (tb t : TypeId) (cs : Array Value) (k : Nat) (v : Value) (x : Int) (B : Nat) : Prop :=
  ∀ (w1 : World) (v' : Value) (tmp : Obj), w1.ownsRow w.heap.size 3 1 v' (k + 1) (ints (xs.take k) ++ [.int .i64 x]) → (W.alloc tmp).grownBy w1 v.ownBlock →
    KeepsFrom B W (w1.setCell ⟨w.heap.size + 1, 0, none⟩ v') ∧ KeepsT t W (w1.setCell ⟨w.heap.size + 1, 0, none⟩ v') ∧ NmIn w xs tb cs (k + 1) (w1.setCell ⟨w.heap.size + 1, 0, none⟩ v')
/-- A number more. -/
theorem NmIn.next {w W : World} {xs : List Int} {tb t : TypeId} {cs : Array Value} {k : Nat} {v : Value} {x : Int}
    (hv : Boxed W (w.heap.size + 1) 96 v) (hr : W.ownsRow w.heap.size 3 1 v k (ints (xs.take k))) (hc : W.heap[w.heap.size + 2]? = some (.cells cs tb (0, 0))) (hB : Below w.heap.size w W)
    (hx : xs[k]? = some x) (h3 : t ≠ 3) (h32 : t ≠ 96) (hb3 : tb ≠ 3)
    (B : Nat) : NmStep w W xs tb t cs k v x B := by
  intro w1 v' tmp hown' hgrow
  obtain ⟨hv1, hv2, hr2, hk2, hb2⟩ := hv.appended (by decide) hr hB.size (by omega) hown' hgrow
  have hg1 : W.grownBy (W.alloc tmp) none := World.grownBy_alloc W _ none
  refine ⟨hk2.from _, ?_, v', hv2, ?_, ?_, hB.trans hb2⟩
  · exact ((KeepsT.grown hg1 (fun r e => by cases e)).trans (KeepsT.grown hgrow (own_is (hr.alloc _) t h3))).trans (KeepsT.setCell _ hv1 (Ne.symm h32))
  · rw [List.take_add_one, hx]; simpa [ints] using hr2
  · have a1 := hg1.block (w.heap.size + 2) (Array.getElem?_eq_some_iff.1 hc).1 (by simp)
    have a2 := hgrow.block (w.heap.size + 2) (by rw [World.size_alloc]; have := (Array.getElem?_eq_some_iff.1 hc).1; omega) (fun e => by
      obtain ⟨o, ho, hne⟩ := own_is (hr.alloc tmp) tb hb3 _ e.symm
      rw [a1.trans hc] at ho; cases ho; exact hne _ _ rfl)
    exact (Below.heap_setCell w1 ⟨w.heap.size + 1, 0, none⟩ v' (w.heap.size + 2) (by simp)).trans (a2.trans (a1.trans hc))
theorem Tryd.info3 : (Tryd.prog.info? 3).map (fun i => (i.zero, i.size, i.bytes)) = some (some (.int .i64 0), 1, 8) := by kernel_rfl
set_option maxRecDepth 100000 in
set_option maxHeartbeats 1000000 in
theorem names_any (t : Tm) (w : World) :
    Calls Tryd.prog 86 #[tmV t] w fun e w' => ∃ v, e = .returned v ∧ w'.ownsRow w.heap.size 3 1 v (namesT t).length (ints (namesT t)) ∧ Below w.heap.size w w' := by
  refine (callsIn_wide (n := 9)).1 ?_
  refine callsIn_of_wp_marks Tryd.func86 rfl trivial ?_ rfl
  rw [wpIn_wide]
  simp only [Tryd.ntmps86, List.size_toArray, List.length_cons, List.length_nil, Nat.reduceAdd, Nat.reduceSub, Array.replicate_succ, Array.replicate_zero, List.push_toArray, List.append_toArray, List.nil_append, List.cons_append]
  go_wp2_with ((with_reducible refine (namesOf_any _ _).mono ?_); rintro e w' ⟨rfl, rfl⟩)
  have hI0 := NmIn.made w (namesT t) 46 46 #[.int .u8 t.k, .int .i64 t.n, .int .i64 t.s, .int .i64 t.r] #[.int .u8 t.k, .int .i64 t.n, .int .i64 t.s, .int .i64 t.r]
  refine (wpIn_wide (n := 9)).1 ?_
  generalize hW0 : (((w.alloc (.cells #[.int .u8 t.k, .int .i64 t.n, .int .i64 t.s, .int .i64 t.r] 46)).alloc (.cells #[.slice none 0 0] 96)).alloc (.cells #[.int .u8 t.k, .int .i64 t.n, .int .i64 t.s, .int .i64 t.r] 46)) = W0 at *
  have hs0 : W0.heap.size = w.heap.size + 3 := by rw [← hW0]; simp
  clear hW0
  have hle := names_le t
  obtain ⟨i0, hi, hz0, hz1, hz2⟩ := info_parts Tryd.info3
  replace hi := Lib.hid hi
  refine wpIn_rangeFunc_rowT rfl (by omega) (gf := 115) (lb := #[.pointer (some ⟨w.heap.size + 2, 0, none⟩)]) rfl trivial (enters_of Tryd.func115 (by kernel_rfl) rfl)
    (names_tells 8 (w.heap.size + 2) (by omega) t W0) (Below.refl _ _) (fun k hk => by rw [nameRow_len] at hk; rcases names_at t k hk with ⟨_, e, _⟩ | ⟨_, e, _⟩ <;> (rw [e]; rfl))
    (NmIn w (namesT t) 46 #[.int .u8 t.k, .int .i64 t.n, .int .i64 t.s, .int .i64 t.r]) (fun _ _ => False) (NmIn.own w _ _ _ _ (by omega)) (fun _ _ _ _ hs _ _ => hs) (fun k W h => h.choose_spec.2.2.1) (fun _ _ h => trivial)
    hI0
    (fun k a' W => ∃ x, (namesT t)[k]? = some x ∧
      a' = { tmps := #[tmV t, .pointer (some ⟨w.heap.size, 0, none⟩), .slice none 0 0, .pointer (some ⟨w.heap.size + 1, 0, none⟩), .int .i64 x, tmV t, .func (.func 115) #[] #[.pointer (some ⟨w.heap.size + 2, 0, none⟩)], .int .i64 x, undef, undef, undef, undef, undef], defers := [] })
    (fun k a' => ownFrom_pure _ _)
    ?assign ?body ?done ?stop
  case assign =>
    intro l k W K hk hI hK
    rw [nameRow_len] at hk
    obtain ⟨x, hx, e⟩ : ∃ x, (namesT t)[k]? = some x ∧ (nameRow t)[k]?.getD #[] = #[.int .i64 x] := by
      rcases names_at t k hk with ⟨_, e, h⟩ | ⟨_, e, h⟩ <;> exact ⟨_, h, e⟩
    rw [e]
    gi_wp2
    exact hK _ _ (KeepsFrom.refl _ _) (KeepsT.refl _ _) hI ⟨x, hx, rfl⟩
  case body =>
    rintro l k a' W hk ⟨v, hv, hr, hc, hB⟩ ⟨x, hx, rfl⟩
    rw [nameRow_len] at hk
    have hcv := hv.cell
    have H := NmIn.next (t := 141) hv hr hc hB hx (by decide) (by decide) (by decide) W0.heap.size
    gi_wp2_with (gi_at_builtin; refine wpListIn_append_own _ rfl _ _ 96 rfl w.heap.size 3 i0 (.int .i64 0) 1 8 Tryd.underlying96 hi.out hz0 hz1 hz2 rfl (by decide) _ _ _ rfl (hr.alloc _) ⟨W.heap.size, 0, none⟩ 1 1 [.int .i64 x] rfl rfl (cell_one_new _ _ _) (by simp [Value.oneCell']) (by unfold maxLen; omega) (by omega) (by have := hB.size; simp; omega) ?_; intro v' w1 hown' hgrow _; have hvv := hv.appended (by decide) hr hB.size (by omega) hown' hgrow; have hcv1 := hvv.1.cell; have hfv1 := hvv.1.frozen; clear hvv; obtain ⟨g', cap', rfl⟩ := ownsRow_succ hown')
    exact H _ _ _ hown' hgrow
  case done =>
    rintro D W hD ⟨v, hv, hr, hc, hB⟩ hK
    rw [nameRow_len, List.take_length] at hr
    have hcv := hv.cell
    have hDw : w.heap.size ≤ D := by omega
    go_wp2
    refine ⟨by simp, .inl ⟨_, _, rfl, run_takeDeferred hK, ?_⟩⟩
    exact ⟨_, results_tmp rfl _ _ _, v, rfl, ownsRow_putObj hr _ hK rfl, hB.trans (belowK_b (w := w) (Nat.le_refl _) W D _ (.deferred none) hDw hK rfl rfl)⟩
  case stop =>
    rintro D c W _ h _
    exact h.elim
end Go.Proofs.YtkedifhlkiffoaaDoor.Tree
/- The positive steps, with their numbers: contracts of positiveOf, of its iterator, of tree.Positive. -/
namespace Go.Proofs.YtkedifhlkiffoaaDoor.Tree
open Go.ChangeShapes Go.WideShapes Go.ChangeAt Go.RowKit
set_option linter.unusedVariables false
set_option linter.unusedSimpArgs false
attribute [local go_sem] Oper.semAt_some
/-- The positive steps with their numbers. -/
def posL : List (Sp × Value) → Nat → List (Nat × (Sp × Value))
  | [], _ => []
  | x :: r, i => if x.1.neg then posL r (i + 1) else (i, x) :: posL r (i + 1)
theorem posL_append (A B : List (Sp × Value)) (i : Nat) : posL (A ++ B) i = posL A i ++ posL B (i + A.length) := by
  induction A generalizing i with
  | nil => simp [posL]
  | cons x r ih =>
    rw [List.cons_append]
    simp only [posL, ih, List.length_cons]
    rw [show i + (r.length + 1) = i + 1 + r.length by omega]
    split <;> rfl
theorem posL_fst (L : List (Sp × Value)) (i : Nat) : (posL L i).map (fun x => (x.1 : Int)) = posF (L.map (·.1)) i := by
  induction L generalizing i with
  | nil => rfl
  | cons x r ih =>
    simp only [posL, posF, List.map_cons]
    split
    · exact ih _
    · rw [List.map_cons, ih]
theorem posL_sum (f : Sp → Int) (L : List (Sp × Value)) (i : Nat) : ((posL L i).map (fun x => f x.2.1)).sum = sumF (fun s => if s.neg then 0 else f s) (L.map (·.1)) := by
  unfold sumF
  induction L generalizing i with
  | nil => rfl
  | cons x r ih =>
    simp only [posL, List.map_cons, List.sum_cons]
    split
    · rename_i h; simp [h, ih]
    · rename_i h; simp [h, ih]
theorem posL_len (L : List (Sp × Value)) (i : Nat) : (posL L i).length ≤ L.length := by
  induction L generalizing i with
  | nil => simp [posL]
  | cons x r ih =>
    simp only [posL, List.length_cons]
    split
    · have := ih (i + 1); omega
    · have := ih (i + 1); simp; omega
def cntP (L : List (Sp × Value)) (j : Nat) : Nat := (posL (L.take j) 0).length
theorem cntP_zero (L : List (Sp × Value)) : cntP L 0 = 0 := by simp [cntP, posL]
theorem cntP_end (L : List (Sp × Value)) (n : Nat) (h : L.length = n) : cntP L n = (posL L 0).length := by rw [cntP, List.take_of_length_le (by omega)]
theorem cntP_neg {L : List (Sp × Value)} {j : Nat} {x : Sp × Value} (h : L[j]? = some x) (hn : x.1.neg = true) : cntP L (j + 1) = cntP L j := by
  have hl := (List.getElem?_eq_some_iff.1 h).1
  simp [cntP, List.take_add_one, h, posL_append, posL, hn]
theorem cntP_pos {L : List (Sp × Value)} {j : Nat} {x : Sp × Value} (h : L[j]? = some x) (hn : x.1.neg = false) : cntP L (j + 1) = cntP L j + 1 ∧ (posL L 0)[cntP L j]? = some (j, x) := by
  have hl := (List.getElem?_eq_some_iff.1 h).1
  refine ⟨by simp [cntP, List.take_add_one, h, posL_append, posL, hn], ?_⟩
  have e : L = L.take j ++ ([x] ++ L.drop (j + 1)) := by
    have h1 := List.take_append_drop j L
    have h2 : L.drop j = x :: L.drop (j + 1) := by
      rw [List.drop_eq_getElem_cons hl]
      have := (List.getElem?_eq_some_iff.1 h).2
      rw [this]
    conv => lhs; rw [← h1, h2]
    rfl
  unfold cntP
  generalize hA : L.take j = A at *
  have hAl : A.length = j := by rw [← hA, List.length_take]; omega
  conv => lhs; rw [e]
  rw [posL_append, posL_append, List.getElem?_append_right (Nat.le_refl _), Nat.sub_self]
  simp [posL, hn, hAl]
def posRow (L : List (Sp × Value)) : List (Array Value) := (posL L 0).map fun x => #[.int .i64 (x.1 : Int), spV x.2.1 x.2.2]
theorem posRow_len (L : List (Sp × Value)) : (posRow L).length = (posL L 0).length := by simp [posRow]
theorem posRow_at {L : List (Sp × Value)} {k j : Nat} {s : Sp} {v : Value} (h : (posL L 0)[k]? = some (j, (s, v))) : (posRow L)[k]?.getD #[] = #[.int .i64 (j : Int), spV s v] := by
  simp [posRow, h]
theorem posRow_size {L : List (Sp × Value)} {k : Nat} (h : k < (posRow L).length) : ((posRow L)[k]?.getD #[]).size = 2 := by
  simp [posRow] at h ⊢
  simp [h]
theorem posL_mem {L : List (Sp × Value)} {i : Nat} {y : Nat × (Sp × Value)} (h : y ∈ posL L i) : y.2 ∈ L := by
  induction L generalizing i with
  | nil => simp [posL] at h
  | cons x r ih =>
    simp only [posL] at h
    split at h
    · exact List.mem_cons_of_mem _ (ih h)
    · rcases List.mem_cons.1 h with h | h
      · subst h; exact List.mem_cons_self
      · exact List.mem_cons_of_mem _ (ih h)
theorem spsL_fst_len {L : List (Sp × Value)} {n : Nat} (h : L.length = n) : (posL L 0).length ≤ n := by have := posL_len L 0; omega
end Go.Proofs.YtkedifhlkiffoaaDoor.Tree
/- Contract of tree.Long. -/
namespace Go.Proofs.YtkedifhlkiffoaaDoor.Tree
open Go.ChangeShapes Go.WideShapes Go.ChangeAt Go.RowKit
set_option linter.unusedVariables false
set_option linter.unusedSimpArgs false
attribute [local go_sem] Oper.semAt_some
def loK (f : Sp → Int) (L : List (Sp × Value)) (k : Nat) : Int := (((posL L 0).take k).map (fun x => within (f x.2.1))).sum
theorem loK_zero (f : Sp → Int) (L : List (Sp × Value)) : loK f L 0 = 0 := by simp [loK]
theorem loK_succ (f : Sp → Int) {L : List (Sp × Value)} {k : Nat} {x : Nat × (Sp × Value)} (h : (posL L 0)[k]? = some x) : loK f L (k + 1) = loK f L k + within (f x.2.1) := by
  simp [loK, List.take_add_one, h]
theorem sum_bd (l : List Int) (h : ∀ x ∈ l, 0 ≤ x ∧ x ≤ 1099511627776) : 0 ≤ l.sum ∧ l.sum ≤ l.length * 1099511627776 := by
  induction l with
  | nil => simp
  | cons x r ih =>
    have h1 := h x List.mem_cons_self
    have h2 := ih (fun y hy => h y (List.mem_cons_of_mem _ hy))
    rw [List.sum_cons, List.length_cons]; push_cast; omega
theorem loK_bd (f : Sp → Int) (L : List (Sp × Value)) (k : Nat) : 0 ≤ loK f L k ∧ loK f L k ≤ k * 1099511627776 := by
  have h := sum_bd (((posL L 0).take k).map (fun x => within (f x.2.1))) (fun x hx => by
    obtain ⟨y, -, rfl⟩ := List.mem_map.1 hx
    exact within_bd _)
  unfold loK
  refine ⟨h.1, Int.le_trans h.2 ?_⟩
  rw [List.length_map, List.length_take]
  omega
theorem loK_least (L : List (Sp × Value)) : loK (·.min) L (posL L 0).length = leastP (L.map (·.1)) := by
  unfold loK leastP
  rw [List.take_length]
  exact posL_sum (fun s => within s.min) L 0
theorem loK_most (L : List (Sp × Value)) : loK (·.max) L (posL L 0).length = mostP (L.map (·.1)) := by
  unfold loK mostP
  rw [List.take_length]
  exact posL_sum (fun s => within s.max) L 0
/-- What Long has behind k positive steps. -/
def LgIn (w : World) (L : List (Sp × Value)) (cs : Array Value) (k : Nat) (W : World) : Prop :=
  Boxed W (w.heap.size + 1) 3 (.int .i64 (loK (·.min) L k)) ∧ Boxed W (w.heap.size + 2) 3 (.int .i64 (loK (·.max) L k)) ∧ W.heap[w.heap.size + 3]? = some (.cells cs 25 (0, 0)) ∧ Below w.heap.size w W
theorem LgIn.own (w : World) (L : List (Sp × Value)) (cs : Array Value) (B : Nat) (hB : w.heap.size ≤ B) : OwnFrom B (LgIn w L cs) := by
  rintro k X Y row ⟨h1, h2, h3, h4⟩ hg hrow
  exact ⟨ownFrom_block _ (fun _ : Unit => #[.int .i64 (loK (·.min) L k)]) 3 B () X Y row h1 hg hrow, ownFrom_block _ (fun _ : Unit => #[.int .i64 (loK (·.max) L k)]) 3 B () X Y row h2 hg hrow, ownFrom_block _ (fun _ : Unit => cs) 25 B () X Y row h3 hg hrow, ownFrom_below (Nat.le_refl _) hB k X Y row h4 hg hrow⟩
theorem LgIn.made (w : World) (L : List (Sp × Value)) (ca cs : Array Value) : LgIn w L cs 0 ((((w.alloc (.cells ca 25)).alloc (.cells #[.int .i64 0] 3)).alloc (.cells #[.int .i64 0] 3)).alloc (.cells cs 25)) := by
  unfold LgIn
  rw [loK_zero, loK_zero]
  refine ⟨?_, ?_, ?_, (((((Below.refl _ w).alloc (Nat.le_refl _) _).alloc (by simp) _).alloc (by simp; omega) _).alloc (by simp; omega) _)⟩
  · have := ((Boxed.new (w.alloc (.cells ca 25)) 3 (.int .i64 0)).alloc (.cells #[.int .i64 0] 3)).alloc (.cells cs 25)
    simpa using this
  · have := (Boxed.new ((w.alloc (.cells ca 25)).alloc (.cells #[.int .i64 0] 3)) 3 (.int .i64 0)).alloc (.cells cs 25)
    simpa using this
  · have := World.alloc_heap_new (((w.alloc (.cells ca 25)).alloc (.cells #[.int .i64 0] 3)).alloc (.cells #[.int .i64 0] 3)) (.cells cs 25)
    simpa using this
theorem block_far {W : World} {B D : Nat} {o : Option Obj} (h : W.heap[B]? = o) (hne : B ≠ D) (k : Nat) (u : Value) : (W.setCell ⟨D, k, none⟩ u).heap[B]? = o := (Below.heap_setCell W ⟨D, k, none⟩ u B hne).trans h
/-- Both sums set. -/
theorem LgIn.next {w W : World} {L : List (Sp × Value)} {cs : Array Value} {k : Nat} {x : Nat × (Sp × Value)} (h : LgIn w L cs k W) (hx : (posL L 0)[k]? = some x) (B : Nat) :
    (fun W2 : World => KeepsFrom B W W2 ∧ KeepsT 39 W W2 ∧ LgIn w L cs (k + 1) W2) ((W.setCell ⟨w.heap.size + 1, 0, none⟩ (.int .i64 (loK (·.min) L k + within x.2.1.min))).setCell ⟨w.heap.size + 2, 0, none⟩ (.int .i64 (loK (·.max) L k + within x.2.1.max))) := by
  obtain ⟨h1, h2, h3, h4⟩ := h
  have e1 := loK_succ (·.min) hx
  have e2 := loK_succ (·.max) hx
  have k1 := boxed_far h2 (show w.heap.size + 2 ≠ w.heap.size + 1 by omega) 0 (.int .i64 (loK (·.min) L k + within x.2.1.min))
  refine ⟨((KeepsOthers.setCell _ _ _).trans (KeepsOthers.setCell _ _ _)).from _, (KeepsT.setCell _ h1 (by decide)).trans (KeepsT.setCell _ k1 (by decide)), ?_, ?_, ?_, ?_⟩
  · rw [e1]; exact boxed_far (h1.set _) (by omega) _ _
  · rw [e2]; exact k1.set _
  · exact block_far (block_far h3 (by omega) _ _) (by omega) _ _
  · exact (h4.setCell (by simp) _).setCell (by simp) _
end Go.Proofs.YtkedifhlkiffoaaDoor.Tree
/- Contract of rightTerm. -/
namespace Go.Proofs.YtkedifhlkiffoaaDoor.Tree
open Go.ChangeShapes Go.WideShapes Go.ChangeAt Go.RowKit
set_option linter.unusedVariables false
set_option linter.unusedSimpArgs false
attribute [local go_sem] Oper.semAt_some
/-- A term whose kind and number are in their bounds. -/
def headT (t : Tm) : Prop := t.k < 7 ∧ -1099511627776 ≤ t.n ∧ t.n ≤ 1099511627776
def nameOk (x : Int) : Bool := decide (0 ≤ x) && decide (x ≤ 25)
theorem rightT_head {t : Tm} (h : ¬ headT t) : rightT t = false := by
  cases hr : rightT t with
  | false => rfl
  | true => have := (rightT_iff t).1 hr; exact absurd ⟨this.1, this.2.1, this.2.2.1⟩ h
theorem rightT_name {t : Tm} {x : Int} {k : Nat} (hx : (namesT t)[k]? = some x) (h : nameOk x = false) : rightT t = false := by
  cases hr : rightT t with
  | false => rfl
  | true =>
    have h2 := (rightT_iff t).1 hr
    have h3 : x = t.s ∨ x = t.r := by
      have hm := List.mem_of_getElem? hx
      unfold namesT at hm
      split at hm
      · simp at hm
      · split at hm
        · simpa using hm
        · left; simpa using hm
    unfold nameOk at h
    have h4 : 0 ≤ x ∧ x ≤ 25 := by rcases h3 with rfl | rfl <;> omega
    simp [h4] at h
theorem rightT_all {t : Tm} (hh : headT t) (hn : ∀ x ∈ namesT t, nameOk x = true) : rightT t = decide (unT t = ⟨t.k, t.n, 0, 0⟩) := by
  obtain ⟨k, n, s, r⟩ := t
  unfold headT at hh
  have hi := rightT_iff ⟨k, n, s, r⟩
  dsimp only at hi hh ⊢
  rw [Bool.eq_iff_iff, hi, decide_eq_true_iff]
  unfold namesT at hn
  unfold unT
  dsimp only at hn ⊢
  unfold nameOk at hn
  by_cases h0 : k = 0
  · subst h0
    simp
    omega
  · by_cases h5 : k = 5 ∨ k = 6
    · simp [h0, h5] at hn ⊢
      omega
    · simp [h0, h5] at hn ⊢
      omega
set_option maxRecDepth 100000 in
set_option maxHeartbeats 1000000 in
theorem rightTerm_head (t : Tm) (w : World) (h : ¬ headT t) : Calls Tryd.prog 97 #[tmV t] w fun e w' => e = .returned (.bool false) ∧ Below w.heap.size w w' := by
  have hb := kept_new w (.cells #[.int .u8 t.k, .int .i64 t.n, .int .i64 t.s, .int .i64 t.r] 46)
  obtain ⟨c0, c1, c2, c3⟩ := (TmBox.new w t).c
  unfold headT at h
  refine (callsIn_wide (n := 9)).1 ?_
  refine callsIn_of_wp_marks Tryd.func97 rfl trivial ?_ rfl
  rw [wpIn_wide]
  simp only [Tryd.ntmps97, List.size_toArray, List.length_cons, List.length_nil, Nat.reduceAdd, Nat.reduceSub, Array.replicate_succ, Array.replicate_zero, List.push_toArray, List.append_toArray, List.nil_append, List.cons_append]
  go_wp2
  refine wp_scope_jumps 0 (fun a' W => Below w.heap.size w W ∧ a'.defers = [] ∧ 2 < a'.tmps.size) (fun _ _ => 0) rfl ?_ ?_
  · by_cases h1 : (7 : Int) ≤ t.k
    · go_wp2
      refine wp_goto ?_
      exact ⟨rfl, hb, rfl, by simp⟩
    · by_cases h2 : t.n < -1099511627776
      · go_wp2
        refine wp_goto ?_
        exact ⟨rfl, hb, rfl, by simp⟩
      · have h3 : (1099511627776 : Int) < t.n := by omega
        go_wp2
        refine wp_goto ?_
        exact ⟨rfl, hb, rfl, by simp⟩
  · rintro a' W ⟨hB, hd, hs⟩
    go_wp2
    rw [jump_ret]
    exact ⟨.bool false, by simp [results, Tryd.results97, go_sem, hs], rfl, hB⟩
/-- What rightTerm has behind k names. -/
def RtIn (w : World) (t : Tm) (k : Nat) (W : World) : Prop := TmBox w.heap.size t W ∧ TmBox (w.heap.size + 1) t W ∧ Below w.heap.size w W ∧ ∀ j x, j < k → (namesT t)[j]? = some x → nameOk x = true
theorem RtIn.own (w : World) (t : Tm) (B : Nat) (hB : w.heap.size ≤ B) : OwnFrom B (RtIn w t) := by
  rintro k X Y row ⟨h1, h2, h3, h4⟩ hg hrow
  exact ⟨ownFrom_block _ (fun _ : Unit => _) 46 B () X Y row h1 hg hrow, ownFrom_block _ (fun _ : Unit => _) 46 B () X Y row h2 hg hrow, ownFrom_below (Nat.le_refl _) hB k X Y row h3 hg hrow, h4⟩
def RtOut (w : World) (t : Tm) (c : Code) (W : World) : Prop := c = .goto 0 ∧ rightT t = false ∧ Below w.heap.size w W
theorem RtOut.own (w : World) (t : Tm) (B : Nat) (hB : w.heap.size ≤ B) : OwnFrom B (RtOut w t) := by
  rintro c X Y row ⟨h1, h2, h3⟩ hg hrow
  exact ⟨h1, h2, ownFrom_below (Nat.le_refl _) hB c X Y row h3 hg hrow⟩
theorem names_row (t : Tm) {k : Nat} (hk : k < (namesT t).length) : ∃ x, (namesT t)[k]? = some x ∧ (nameRow t)[k]?.getD #[] = #[.int .i64 x] := by
  rcases names_at t k hk with ⟨_, e, h⟩ | ⟨_, e, h⟩ <;> exact ⟨_, h, e⟩
set_option maxRecDepth 100000 in
set_option maxHeartbeats 1000000 in
theorem rightTerm_all (t : Tm) (w : World) (h : headT t) : Calls Tryd.prog 97 #[tmV t] w fun e w' => e = .returned (.bool (rightT t)) ∧ Below w.heap.size w w' := by
  have hb2 := below_two w (.cells #[.int .u8 t.k, .int .i64 t.n, .int .i64 t.s, .int .i64 t.r] 46) (.cells #[.int .u8 t.k, .int .i64 t.n, .int .i64 t.s, .int .i64 t.r] 46)
  have hI0 : RtIn w t 0 ((w.alloc (.cells #[.int .u8 t.k, .int .i64 t.n, .int .i64 t.s, .int .i64 t.r] 46)).alloc (.cells #[.int .u8 t.k, .int .i64 t.n, .int .i64 t.s, .int .i64 t.r] 46)) :=
    ⟨(TmBox.new w t).later (kept_new _ _), new_two _ _ _, hb2, fun j x hj => by omega⟩
  obtain ⟨c0, c1, c2, c3⟩ := (TmBox.new w t).c
  have hle := names_le t
  have hh := Lib.hid h
  have hA := Lib.hid (rightT_all h)
  obtain ⟨h1, h2, h3⟩ := h
  have h1' : ¬ (7 : Int) ≤ t.k := by omega
  have h2' : ¬ t.n < -1099511627776 := by omega
  have h3' : ¬ (1099511627776 : Int) < t.n := by omega
  clear hb2
  refine (callsIn_wide (n := 9)).1 ?_
  refine callsIn_of_wp_marks Tryd.func97 rfl trivial ?_ rfl
  rw [wpIn_wide]
  simp only [Tryd.ntmps97, List.size_toArray, List.length_cons, List.length_nil, Nat.reduceAdd, Nat.reduceSub, Array.replicate_succ, Array.replicate_zero, List.push_toArray, List.append_toArray, List.nil_append, List.cons_append]
  go_wp2
  refine wp_scope_jumps 0 (fun a' W => rightT t = false ∧ Below w.heap.size w W ∧ 2 < a'.tmps.size ∧ ∃ D, a'.defers = [{ target := .collected D, args := #[] }] ∧ W.heap[D]? = some (.deferred (some [])) ∧ w.heap.size ≤ D) (fun _ _ => 0) rfl ?_ ?_
  · go_wp2_with ((with_reducible refine (namesOf_any _ _).mono ?_); rintro e w' ⟨rfl, rfl⟩)
    clear c0 c1 c2 c3
    refine (wpIn_wide (n := 9)).1 ?_
    generalize hW0 : ((w.alloc (.cells #[.int .u8 t.k, .int .i64 t.n, .int .i64 t.s, .int .i64 t.r] 46)).alloc (.cells #[.int .u8 t.k, .int .i64 t.n, .int .i64 t.s, .int .i64 t.r] 46)) = W0 at *
    have hs0 : W0.heap.size = w.heap.size + 2 := by rw [← hW0]; simp
    clear hW0
    refine wpIn_rangeFunc_rowT rfl (by omega) (gf := 115) (lb := #[.pointer (some ⟨w.heap.size + 1, 0, none⟩)]) rfl trivial (enters_of Tryd.func115 (by kernel_rfl) rfl)
      (names_tells 8 (w.heap.size + 1) (by omega) t W0) (Below.refl _ _) (fun k hk => by rw [nameRow_len] at hk; obtain ⟨x, _, e⟩ := names_row t hk; rw [e]; rfl)
      (RtIn w t) (RtOut w t) (RtIn.own w _ _ (by omega)) (RtOut.own w _ _ (by omega)) (fun k W h => h.2.1) (fun _ _ h => trivial)
      hI0
      (fun k a' W => ∃ x u1 u2 u3 u4 u5 u6 u7 u8 u9 u10 u11 u12 u13 u14, (namesT t)[k]? = some x ∧
        a' = { tmps := #[tmV t, .pointer (some ⟨w.heap.size, 0, none⟩), .bool false, .int .i64 x, u1, u2, u3, u4, u5, u6, u7, u8, u9, u10, u11, u12, u13, tmV t, .func (.func 115) #[] #[.pointer (some ⟨w.heap.size + 1, 0, none⟩)], u14, undef, undef, undef, undef, undef, undef, undef, undef, undef, undef, undef], defers := [] })
      (fun k a' => ownFrom_pure _ _)
      ?assign ?body ?done ?stop
    case assign =>
      intro l k W K hk hI hK
      rw [nameRow_len] at hk
      obtain ⟨x, hx, e⟩ := names_row t hk
      rw [e]
      gi_wp2
      exact hK _ _ (KeepsFrom.refl _ _) (KeepsT.refl _ _) hI ⟨x, _, _, _, _, _, _, _, _, _, _, _, _, _, _, hx, rfl⟩
    case body =>
      rintro l k a' W hk ⟨b1, b2, b3, b4⟩ ⟨x, u1, u2, u3, u4, u5, u6, u7, u8, u9, u10, u11, u12, u13, u14, hx, rfl⟩
      obtain ⟨ok, hok⟩ : ∃ ok, nameOk x = ok := ⟨_, rfl⟩
      have hC := Lib.hid (fun w => upTo_any x 25 ok w hok)
      clear h1' h2' h3' h1 h2 h3
      cases ok
      · have hr := Lib.hid (rightT_name hx hok)
        clear hok
        gi_wp2_with fail
        refine ⟨trivial, ((callsIn_wide (n := 6)).2 (hC.out _)).mono ?_⟩
        rintro e w6 ⟨rfl, rfl⟩
        gi_wp2
        refine wpIn_goto ?_
        exact ⟨KeepsFrom.refl _ _, rfl, hr.out, b3⟩
      · have hr : Hid (∀ j y, j < k + 1 → (namesT t)[j]? = some y → nameOk y = true) := fun j y hj hy => by
          by_cases hjk : j = k
          · subst hjk; rw [hx] at hy; cases hy; exact hok
          · exact b4 j y (by omega) hy
        clear hok hx
        gi_wp2_with fail
        refine ⟨trivial, ((callsIn_wide (n := 6)).2 (hC.out _)).mono ?_⟩
        rintro e w6 ⟨rfl, rfl⟩
        gi_wp2
        exact ⟨KeepsFrom.refl _ _, KeepsT.refl _ _, b1, b2, b3, hr.out⟩
    case done =>
      rintro D W hD ⟨b1, b2, b3, b4⟩ hK
      rw [nameRow_len] at b4
      have hDw : w.heap.size ≤ D := by omega
      have hr : Hid (rightT t = decide (unT t = ⟨t.k, t.n, 0, 0⟩)) := rightT_all hh.out (fun x hx => by
        obtain ⟨j, hj⟩ := List.mem_iff_getElem?.1 hx
        exact b4 j x (List.getElem?_eq_some_iff.1 hj).1 hj)
      clear b4 h1' h2' h3' h1 h2 h3
      obtain ⟨c0, c1, c2, c3⟩ := b1.c
      have hU := Lib.hid (fun w => unnamed_any t w)
      have hE := tm_eql (unT t) ⟨t.k, t.n, 0, 0⟩
      dsimp only [tmV] at hE hU
      go_wp2
      refine wp_mono (Q := Exit.then (fun a' W2 => a'.defers = [{ target := .collected D, args := #[] }] ∧ 2 < a'.tmps.size ∧ a'.tmps.getD 2 undef = .bool (rightT t) ∧ Below W.heap.size W W2) (fun _ _ _ => False)) ?_ ?_
      · rw [hr.out]
        go_region_with ((with_reducible refine (hU.out _).mono ?_); rintro e w1 ⟨rfl, hq⟩; have y0 := bcell ((Below.refl W.heap.size W).drew.trans hq) (World.block_lt_of_cell? W _ c0) c0; have y1 := bcell ((Below.refl W.heap.size W).drew.trans hq) (World.block_lt_of_cell? W _ c1) c1)
        all_goals exact ⟨rfl, (by decide : 2 < 31), rfl, (Below.refl W.heap.size W).drew.trans hq⟩
      · rintro e a' W2 hQ
        cases e <;> first | exact hQ.elim | skip
        obtain ⟨hd, hs, hg, hB2⟩ := hQ
        obtain ⟨tm, df⟩ := a'
        dsimp only at hd hs hg
        subst hd
        have hK2 := (hB2.block D (Array.getElem?_eq_some_iff.1 hK).1).trans hK
        go_wp2
        rw [jump_ret]
        refine ⟨by simp, .inl ⟨_, _, rfl, run_takeDeferred hK2, ?_⟩⟩
        exact ⟨_, by rw [← hg]; exact results_tmp rfl _ _ _, rfl, (b3.trans (hB2.mono b3.size)).trans (belowK_b (w := w) (Nat.le_refl _) W2 D _ (.deferred none) hDw hK2 rfl rfl)⟩
    case stop =>
      rintro D c W hD ⟨rfl, hr, hB⟩ hK
      refine wpIn_goto ?_
      exact ⟨rfl, hr, hB, by simp, D, rfl, hK, by omega⟩
  · rintro a' W ⟨hr, hB, hs, D, hd, hK, hD⟩
    obtain ⟨tm, df⟩ := a'
    dsimp only at hd hs
    subst hd
    go_wp2
    rw [jump_ret]
    refine ⟨by simp, .inl ⟨_, _, rfl, run_takeDeferred hK, ?_⟩⟩
    refine ⟨.bool false, by simp [results, Tryd.results97, go_sem, hs], by rw [hr], hB.trans (belowK_b (w := w) (Nat.le_refl _) W D _ (.deferred none) hD hK rfl rfl)⟩
theorem rightTerm_any (t : Tm) (w : World) : Calls Tryd.prog 97 #[tmV t] w fun e w' => e = .returned (.bool (rightT t)) ∧ Below w.heap.size w w' := by
  by_cases h : headT t
  · exact rightTerm_all t w h
  · rw [rightT_head h]; exact rightTerm_head t w h
end Go.Proofs.YtkedifhlkiffoaaDoor.Tree
/- Contract of rightStep. -/
namespace Go.Proofs.YtkedifhlkiffoaaDoor.Tree
open Go.ChangeShapes Go.WideShapes Go.ChangeAt Go.RowKit
set_option linter.unusedVariables false
set_option linter.unusedSimpArgs false
attribute [local go_sem] Oper.semAt_some
theorem up_nbr (n : Int) (b : Bool) (w : World) (h : nbr n = b) : Calls Tryd.prog 77 #[.int .i64 n, .int .i64 1099511627776] w fun e w' => e = .returned (.bool b) ∧ w = w' := upTo_any n _ _ w h
def numsOk (s : Sp) : Bool := nbr s.kind && nbr s.min && nbr s.max
def opOk (c : Cp) : Bool := decide (1 ≤ c.op) && decide (c.op < 7)
theorem rightS_eq (s : Sp) : rightS s = (numsOk s && s.cs.all rightC) := by unfold rightS numsOk; rfl
theorem rightC_eq (c : Cp) : rightC c = (opOk c && (rightT c.l && rightT c.r)) := by unfold rightC opOk; simp [Bool.and_assoc]
theorem terms_all (cs : List Cp) : (termsC cs).all rightT = cs.all (fun c => rightT c.l && rightT c.r) := by
  unfold termsC
  induction cs with
  | nil => rfl
  | cons c r ih => rw [List.flatMap_cons, List.all_append, ih]; simp
theorem rightS_terms {s : Sp} (h1 : numsOk s = true) (h2 : s.cs.all opOk = true) : rightS s = (termsC s.cs).all rightT := by
  rw [rightS_eq, h1, Bool.true_and, terms_all]
  have : ∀ cs : List Cp, cs.all opOk = true → cs.all rightC = cs.all (fun c => rightT c.l && rightT c.r) := by
    intro cs
    induction cs with
    | nil => intro _; rfl
    | cons c r ih =>
      intro h
      simp only [List.all_cons, Bool.and_eq_true] at h
      rw [List.all_cons, List.all_cons, ih h.2, rightC_eq, h.1, Bool.true_and]
  exact this _ h2
theorem rightS_num {s : Sp} (h : numsOk s = false) : rightS s = false := by rw [rightS_eq, h]; rfl
theorem rightS_op {s : Sp} {i : Nat} {c : Cp} (h : s.cs[i]? = some c) (ho : opOk c = false) : rightS s = false := cmp_no h (by rw [rightC_eq, ho]; rfl)
set_option maxRecDepth 100000 in
set_option maxHeartbeats 1000000 in
theorem rightStep_nums (s : Sp) (a : Option Addr) (n c : Nat) (w : World) (h : numsOk s = false) : Calls Tryd.prog 78 #[spV s (.slice a n c)] w fun e w' => e = .returned (.bool false) ∧ Below w.heap.size w w' := by
  have hb := kept_new w (.cells #[.bool s.neg, .int .i64 s.kind, .int .i64 s.min, .int .i64 s.max, .bool s.strict, .slice a n c] 39)
  obtain ⟨c0, c1, c2, c3, c4, c5⟩ := (SpBox.new w s (.slice a n c)).cells
  refine (callsIn_wide (n := 9)).1 ?_
  refine callsIn_of_wp_marks Tryd.func78 rfl trivial ?_ rfl
  rw [wpIn_wide]
  simp only [Tryd.ntmps78, List.size_toArray, List.length_cons, List.length_nil, Nat.reduceAdd, Nat.reduceSub, Array.replicate_succ, Array.replicate_zero, List.push_toArray, List.append_toArray, List.nil_append, List.cons_append]
  go_wp2
  refine wp_scope_jumps 0 (fun a' W => Below w.heap.size w W ∧ a'.defers = [] ∧ 2 < a'.tmps.size) (fun _ _ => 0) rfl ?_ ?_
  · unfold numsOk at h
    cases h1 : nbr s.kind with
    | false =>
      have H1 := Lib.hid (fun w => up_nbr s.kind false w h1)
      clear h h1
      go_wp2_with ((with_reducible refine (H1.out _).mono ?_); rintro e w' ⟨rfl, rfl⟩)
      refine wp_goto ?_
      exact ⟨rfl, hb, rfl, by simp⟩
    | true =>
      have H1 := Lib.hid (fun w => up_nbr s.kind true w h1)
      rw [h1] at h
      cases h2 : nbr s.min with
      | false =>
        have H2 := Lib.hid (fun w => up_nbr s.min false w h2)
        clear h h1 h2
        go_wp2_with ((first | (with_reducible refine (H1.out _).mono ?_) | (with_reducible refine (H2.out _).mono ?_)); rintro e w' ⟨rfl, rfl⟩)
        refine wp_goto ?_
        exact ⟨rfl, hb, rfl, by simp⟩
      | true =>
        rw [h2] at h
        have h3 : nbr s.max = false := by simpa using h
        have H2 := Lib.hid (fun w => up_nbr s.min true w h2)
        have H3 := Lib.hid (fun w => up_nbr s.max false w h3)
        clear h h1 h2 h3
        go_wp2_with ((first | (with_reducible refine (H1.out _).mono ?_) | (with_reducible refine (H2.out _).mono ?_) | (with_reducible refine (H3.out _).mono ?_)); rintro e w' ⟨rfl, rfl⟩)
        refine wp_goto ?_
        exact ⟨rfl, hb, rfl, by simp⟩
  · rintro a' W ⟨hB, hd, hs⟩
    go_wp2
    rw [jump_ret]
    exact ⟨.bool false, by simp [results, Tryd.results78, go_sem, hs], rfl, hB⟩
theorem opOk_no {x : Cp} (h0 : 0 ≤ x.op) (h : opOk x = false) : x.op = 0 ∨ (7 : Int) ≤ x.op := by
  unfold opOk at h
  by_cases h1 : 1 ≤ x.op
  · simp [h1] at h; right; omega
  · left; omega
theorem opOk_yes {x : Cp} (h : opOk x = true) : (x.op == 0) = false ∧ ¬ (7 : Int) ≤ x.op := by
  unfold opOk at h
  simp at h
  exact ⟨by simp; omega, by omega⟩
set_option maxRecDepth 100000 in
set_option maxHeartbeats 1000000 in
theorem rightStep_op (s : Sp) (a : Option Addr) (n c : Nat) (w : World) (hn : n ≤ 140737488351232) (hl : s.cs.length = n) (hc : CpsAt w (.slice a n c) s.cs) (hop : ∀ x ∈ s.cs, 0 ≤ x.op) (h : numsOk s = true) (hbad : s.cs.all opOk = false) :
    Calls Tryd.prog 78 #[spV s (.slice a n c)] w fun e w' => e = .returned (.bool false) ∧ Below w.heap.size w w' := by
  have hb := kept_new w (.cells #[.bool s.neg, .int .i64 s.kind, .int .i64 s.min, .int .i64 s.max, .bool s.strict, .slice a n c] 39)
  have hsp := SpBox.new w s (.slice a n c)
  have hin : SpIn w.heap.size s a n c (w.alloc (.cells #[.bool s.neg, .int .i64 s.kind, .int .i64 s.min, .int .i64 s.max, .bool s.strict, .slice a n c] 39)) := ⟨hsp, hl, hc.later hb⟩
  obtain ⟨c0, c1, c2, c3, c4, c5⟩ := hsp.cells
  clear hsp hc
  unfold numsOk at h
  simp only [Bool.and_eq_true] at h
  obtain ⟨⟨h1, h2⟩, h3⟩ := h
  have H1 := Lib.hid (fun w => up_nbr s.kind true w h1)
  have H2 := Lib.hid (fun w => up_nbr s.min true w h2)
  have H3 := Lib.hid (fun w => up_nbr s.max true w h3)
  clear h1 h2 h3
  replace hbad := Lib.hid hbad
  replace hop := Lib.hid hop
  replace hl := Lib.hid hl
  replace hin := Lib.hid hin
  replace hb := Lib.hid hb
  refine (callsIn_wide (n := 9)).1 ?_
  refine callsIn_of_wp_marks Tryd.func78 rfl trivial ?_ rfl
  rw [wpIn_wide]
  simp only [Tryd.ntmps78, List.size_toArray, List.length_cons, List.length_nil, Nat.reduceAdd, Nat.reduceSub, Array.replicate_succ, Array.replicate_zero, List.push_toArray, List.append_toArray, List.nil_append, List.cons_append]
  go_wp2
  refine wp_scope_jumps 0 (fun a' W => Below w.heap.size w W ∧ a'.defers = [] ∧ 2 < a'.tmps.size) (fun _ _ => 0) rfl ?_ ?_
  · go_wp2_with ((first | (with_reducible refine (H1.out _).mono ?_) | (with_reducible refine (H2.out _).mono ?_) | (with_reducible refine (H3.out _).mono ?_)); rintro e w' ⟨rfl, rfl⟩)
    clear c0 c1 c2 c3 c4 c5 H1 H2 H3
    generalize (w.alloc (.cells #[.bool s.neg, .int .i64 s.kind, .int .i64 s.min, .int .i64 s.max, .bool s.strict, .slice a n c] 39)) = w0 at *
    generalize hB : w.heap.size = B at *
    replace hb : Hid (Below w.heap.size w w0) := by rw [hB]; exact hb
    replace hB := Lib.hid hB
    go_loopw [25] (fun t wr => ∃ i : Nat, i ≤ n ∧ t = .int .i64 i ∧ Hid (Below w0.heap.size w0 wr) ∧ Hid (∀ j x, j < i → s.cs[j]? = some x → opOk x = true)) (fun t _ => n - (intOf t).toNat)
    case atStart => exact ⟨0, Nat.zero_le _, rfl, Below.refl _ _, fun j x hj => by omega⟩
    case round =>
      obtain ⟨i, hi, rfl, hwr, hall⟩ := hrel
      by_cases hlt : i < n
      · have hlti : (i : Int) < n := by omega
        obtain ⟨x, hx⟩ : ∃ x, s.cs[i]? = some x := ⟨_, List.getElem?_eq_getElem (by rw [hl.out]; exact hlt)⟩
        obtain ⟨b, o, rfl, z0, z1, z2, z3, z4, z5, z6, z7, z8⟩ := (hin.out.later hwr.out).cmp hx
        have hop0 := hop.out x (List.mem_of_getElem? hx)
        have hcp := CpBox.new wr x
        have hw1 : Hid (Below w0.heap.size w0 (wr.alloc (.cells #[.int .u8 x.op, .int .u8 x.l.k, .int .i64 x.l.n, .int .i64 x.l.s, .int .i64 x.l.r, .int .u8 x.r.k, .int .i64 x.r.n, .int .i64 x.r.s, .int .i64 x.r.r] 48))) := kept_alloc hwr.out _
        obtain ⟨q0, q1, q2, q3, q4, q5, q6, q7, q8⟩ := hcp.cells
        clear hcp
        cases hok : opOk x with
        | false =>
          have hA := opOk_no hop0 hok
          clear hok hx
          rcases hA with h0 | h7
          · rw [h0] at z0 q0 q1 q2 q3 q4 q5 q6 q7 q8 hw1
            go_wp2
            refine wp_goto ?_
            exact ⟨rfl, kept_trans hb.out hw1.out, rfl, by simp⟩
          · have h7n : ¬ x.op = 0 := by omega
            have h7b : (x.op == 0) = false := by simp; omega
            go_wp2
            refine wp_goto ?_
            exact ⟨rfl, kept_trans hb.out hw1.out, rfl, by simp⟩
        | true =>
          obtain ⟨h0b, h7⟩ := opOk_yes hok
          have hall' : Hid (∀ j x, j < i + 1 → s.cs[j]? = some x → opOk x = true) := fun j y hj hy => by
            by_cases hji : j = i
            · subst hji; rw [hx] at hy; cases hy; exact hok
            · exact hall.out j y (by omega) hy
          clear hok hx
          go_wp2
          go_roundw
          case rel => exact ⟨i + 1, by omega, by go_num, hw1, hall'⟩
          case measure => simp [intOf]; omega
      · exfalso
        have : s.cs.all opOk = true := by
          rw [List.all_eq_true]
          intro x hx
          obtain ⟨j, hj⟩ := List.mem_iff_getElem?.1 hx
          have hjl := (List.getElem?_eq_some_iff.1 hj).1
          rw [hl.out] at hjl
          exact hall.out j x (by omega) hj
        rw [hbad.out] at this
        cases this
  · rintro a' W ⟨hB, hd, hs⟩
    go_wp2
    rw [jump_ret]
    exact ⟨.bool false, by simp [results, Tryd.results78, go_sem, hs], rfl, hB⟩
end Go.Proofs.YtkedifhlkiffoaaDoor.Tree
/- Contract of rightStep, its third part: the terms. -/
namespace Go.Proofs.YtkedifhlkiffoaaDoor.Tree
open Go.ChangeShapes Go.WideShapes Go.ChangeAt Go.RowKit
set_option linter.unusedVariables false
set_option linter.unusedSimpArgs false
attribute [local go_sem] Oper.semAt_some
/-- What rightStep has behind k terms: its second box at B. -/
def RsIn (w : World) (B : Nat) (s : Sp) (v : Value) (k : Nat) (W : World) : Prop := SpBox B s v W ∧ Below w.heap.size w W ∧ ∀ j t, j < k → (termsC s.cs)[j]? = some t → rightT t = true
theorem RsIn.own (w : World) (D : Nat) (s : Sp) (v : Value) (B : Nat) (hB : w.heap.size ≤ B) : OwnFrom B (RsIn w D s v) := by
  rintro k X Y row ⟨h1, h2, h3⟩ hg hrow
  exact ⟨ownFrom_block _ (fun _ : Unit => _) 39 B () X Y row h1 hg hrow, ownFrom_below (Nat.le_refl _) hB k X Y row h2 hg hrow, h3⟩
def RsOut (w : World) (s : Sp) (c : Code) (W : World) : Prop := c = .goto 0 ∧ rightS s = false ∧ Below w.heap.size w W
theorem RsOut.own (w : World) (s : Sp) (B : Nat) (hB : w.heap.size ≤ B) : OwnFrom B (RsOut w s) := by
  rintro c X Y row ⟨h1, h2, h3⟩ hg hrow
  exact ⟨h1, h2, ownFrom_below (Nat.le_refl _) hB c X Y row h3 hg hrow⟩
theorem term_row {cs : List Cp} {k : Nat} (hk : k < (termRow cs).length) : ∃ t, (termsC cs)[k]? = some t ∧ (termRow cs)[k]?.getD #[] = #[tmV t] := by
  have hk' : k < (termsC cs).length := by simpa [termRow] using hk
  exact ⟨(termsC cs)[k], by simp [hk'], by simp [termRow, hk']⟩
theorem TmBox.below {p : Nat} {t : Tm} {w w' : World} (h : TmBox p t w) (hb : Below w.heap.size w w') : TmBox p t w' := h.later hb
set_option maxRecDepth 100000 in
set_option maxHeartbeats 1000000 in
theorem rightStep_ops (s : Sp) (a : Option Addr) (n c : Nat) (w : World) (hn : n ≤ 140737488351232) (hl : s.cs.length = n) (hc : CpsAt w (.slice a n c) s.cs) (h : numsOk s = true) (hgood : s.cs.all opOk = true) :
    Calls Tryd.prog 78 #[spV s (.slice a n c)] w fun e w' => e = .returned (.bool (rightS s)) ∧ Below w.heap.size w w' := by
  have hb := kept_new w (.cells #[.bool s.neg, .int .i64 s.kind, .int .i64 s.min, .int .i64 s.max, .bool s.strict, .slice a n c] 39)
  have hsp := SpBox.new w s (.slice a n c)
  have hin : SpIn w.heap.size s a n c (w.alloc (.cells #[.bool s.neg, .int .i64 s.kind, .int .i64 s.min, .int .i64 s.max, .bool s.strict, .slice a n c] 39)) := ⟨hsp, hl, hc.later hb⟩
  obtain ⟨c0, c1, c2, c3, c4, c5⟩ := hsp.cells
  have hRS := Lib.hid (rightS_terms h hgood)
  have hCps := Lib.hid hc
  clear hsp hc
  unfold numsOk at h
  simp only [Bool.and_eq_true] at h
  obtain ⟨⟨h1, h2⟩, h3⟩ := h
  have H1 := Lib.hid (fun w => up_nbr s.kind true w h1)
  have H2 := Lib.hid (fun w => up_nbr s.min true w h2)
  have H3 := Lib.hid (fun w => up_nbr s.max true w h3)
  clear h1 h2 h3
  replace hgood := Lib.hid hgood
  replace hl := Lib.hid hl
  replace hin := Lib.hid hin
  replace hb := Lib.hid hb
  refine (callsIn_wide (n := 9)).1 ?_
  refine callsIn_of_wp_marks Tryd.func78 rfl trivial ?_ rfl
  rw [wpIn_wide]
  simp only [Tryd.ntmps78, List.size_toArray, List.length_cons, List.length_nil, Nat.reduceAdd, Nat.reduceSub, Array.replicate_succ, Array.replicate_zero, List.push_toArray, List.append_toArray, List.nil_append, List.cons_append]
  go_wp2
  refine wp_scope_jumps 0 (fun a' W => rightS s = false ∧ Below w.heap.size w W ∧ 2 < a'.tmps.size ∧ ∃ D, a'.defers = [{ target := .collected D, args := #[] }] ∧ W.heap[D]? = some (.deferred (some [])) ∧ w.heap.size ≤ D) (fun _ _ => 0) rfl ?_ ?_
  · go_wp2_with ((first | (with_reducible refine (H1.out _).mono ?_) | (with_reducible refine (H2.out _).mono ?_) | (with_reducible refine (H3.out _).mono ?_)); rintro e w' ⟨rfl, rfl⟩)
    clear c0 c1 c2 c3 c4 c5 H1 H2 H3
    generalize (w.alloc (.cells #[.bool s.neg, .int .i64 s.kind, .int .i64 s.min, .int .i64 s.max, .bool s.strict, .slice a n c] 39)) = w0 at *
    generalize hB : w.heap.size = B at *
    replace hb : Hid (Below w.heap.size w w0) := by rw [hB]; exact hb
    replace hB := Lib.hid hB
    go_loopw [25] (fun t wr => ∃ i : Nat, i ≤ n ∧ t = .int .i64 i ∧ Hid (Below w0.heap.size w0 wr)) (fun t _ => n - (intOf t).toNat)
    case atStart => exact ⟨0, Nat.zero_le _, rfl, Below.refl _ _⟩
    case round =>
      obtain ⟨i, hi, rfl, hwr⟩ := hrel
      by_cases hlt : i < n
      · have hlti : (i : Int) < n := by omega
        obtain ⟨x, hx⟩ : ∃ x, s.cs[i]? = some x := ⟨_, List.getElem?_eq_getElem (by rw [hl.out]; exact hlt)⟩
        obtain ⟨b, o, rfl, z0, z1, z2, z3, z4, z5, z6, z7, z8⟩ := (hin.out.later hwr.out).cmp hx
        have hcp := CpBox.new wr x
        have hw1 : Hid (Below w0.heap.size w0 (wr.alloc (.cells #[.int .u8 x.op, .int .u8 x.l.k, .int .i64 x.l.n, .int .i64 x.l.s, .int .i64 x.l.r, .int .u8 x.r.k, .int .i64 x.r.n, .int .i64 x.r.s, .int .i64 x.r.r] 48))) := kept_alloc hwr.out _
        obtain ⟨q0, q1, q2, q3, q4, q5, q6, q7, q8⟩ := hcp.cells
        clear hcp
        have hok : opOk x = true := by
          have := hgood.out
          rw [List.all_eq_true] at this
          exact this x (List.mem_of_getElem? hx)
        obtain ⟨h0b, h7⟩ := opOk_yes hok
        clear hok hx
        go_wp2
        go_roundw
        case rel => exact ⟨i + 1, by omega, by go_num, hw1⟩
        case measure => simp [intOf]; omega
      · have hlti : ¬ (i : Int) < n := by omega
        have hin1 := hin.out.later hwr.out
        obtain ⟨y0, y1, y2, y3, y4, y5⟩ := hin1.1.cells
        have hbb : Below w.heap.size w wr := kept_trans hb.out hwr.out
        have hcw := hCps.out.later hbb
        clear hin
        go_wp2_with ((with_reducible refine (termsOf_any _ _ _ _ _).mono ?_); rintro e w' ⟨rfl, rfl⟩)
        clear y0 y1 y2 y3 y4 y5 hin1
        refine (wpIn_wide (n := 9)).1 ?_
        have hB0 : Below w.heap.size w (wr.alloc (.cells #[.bool s.neg, .int .i64 s.kind, .int .i64 s.min, .int .i64 s.max, .bool s.strict, .slice a n c] 39)) := kept_alloc hbb _
        have hI0 : RsIn w wr.heap.size s (.slice a n c) 0 (wr.alloc (.cells #[.bool s.neg, .int .i64 s.kind, .int .i64 s.min, .int .i64 s.max, .bool s.strict, .slice a n c] 39)) := ⟨SpBox.new wr s _, hB0, fun j t hj => by omega⟩
        have hs0 : w.heap.size ≤ (wr.alloc (.cells #[.bool s.neg, .int .i64 s.kind, .int .i64 s.min, .int .i64 s.max, .bool s.strict, .slice a n c] 39)).heap.size := hB0.size
        have hcw' : CpsAt w (.slice a n c) s.cs := hCps.out
        generalize wr.heap.size = S2 at *
        generalize (wr.alloc (.cells #[.bool s.neg, .int .i64 s.kind, .int .i64 s.min, .int .i64 s.max, .bool s.strict, .slice a n c] 39)) = W0 at *
        clear hCps hB
        have hRS' := Lib.hid hRS.out
        refine wpIn_rangeFunc_rowT rfl (by omega) (gf := 112) (lb := #[.pointer (some ⟨S2, 0, none⟩)]) rfl trivial (enters_of Tryd.func112 (by kernel_rfl) rfl)
          (terms_tells 8 S2 (by omega) s a n c hn W0) (Below.refl _ _) (fun k hk => by obtain ⟨t, _, e⟩ := term_row hk; rw [e]; rfl)
          (RsIn w S2 s (.slice a n c)) (RsOut w s) (RsIn.own w _ _ _ _ hs0) (RsOut.own w _ _ hs0) (fun k W h => ⟨h.1, hl.out, hcw'.later h.2.1⟩) (fun _ _ h => trivial)
          hI0
          (fun k a' W => ∃ (t : Tm) (p : Nat) (u0 u1 u3 u4 u6 u7 u8 u9 u10 u11 u12 u13 u14 u15 u16 u17 u18 u19 u20 u21 u22 u23 u24 u25 u26 u27 u28 u29 u30 u31 u32 u33 u34 u35 u36 u37 u38 u39 : Value), (termsC s.cs)[k]? = some t ∧ TmBox p t W ∧
            a' = { tmps := #[u0, u1, Value.bool false, u3, u4, .pointer (some ⟨p, 0, none⟩), u6, u7, u8, u9, u10, u11, u12, u13, u14, u15, u16, u17, u18, u19, u20, u21, u22, u23, u24, u25, u26, u27, u28, u29, u30, u31, u32, u33, u34, u35, u36, u37, u38, u39, tmV t, undef, undef, undef], defers := [] })
          ?ax ?assign ?body ?done ?stop
        case ax =>
          rintro k a' ⟨⟩ X Y row ⟨t, p, u0, u1, u3, u4, u6, u7, u8, u9, u10, u11, u12, u13, u14, u15, u16, u17, u18, u19, u20, u21, u22, u23, u24, u25, u26, u27, u28, u29, u30, u31, u32, u33, u34, u35, u36, u37, u38, u39, h1, h2, h3⟩ hg hrow
          exact ⟨t, p, u0, u1, u3, u4, u6, u7, u8, u9, u10, u11, u12, u13, u14, u15, u16, u17, u18, u19, u20, u21, u22, u23, u24, u25, u26, u27, u28, u29, u30, u31, u32, u33, u34, u35, u36, u37, u38, u39, h1, ownFrom_block p (fun _ : Unit => _) 46 _ () X Y row h2 hg hrow, h3⟩
        case assign =>
          intro l k W K hk hI hK
          obtain ⟨t, ht, e⟩ := term_row hk
          rw [e]
          have hk1 := kept_new W (.cells #[.int .u8 t.k, .int .i64 t.n, .int .i64 t.s, .int .i64 t.r] 46)
          have hI1 : RsIn w S2 s (.slice a n c) k (W.alloc (.cells #[.int .u8 t.k, .int .i64 t.n, .int .i64 t.s, .int .i64 t.r] 46)) := (RsIn.own w S2 s _ w.heap.size (Nat.le_refl _)).alloc _ hI
          have hsp := TmBox.new W t
          gi_wp2
          exact hK _ _ (keeps_of_below hk1) (KeepsT.of_below hk1) hI1 ⟨t, _, _, _, _, _, _, _, _, _, _, _, _, _, _, _, _, _, _, _, _, _, _, _, _, _, _, _, _, _, _, _, _, _, _, _, _, _, _, _, ht, hsp, rfl⟩
        case body =>
          rintro l k a' W hk ⟨b1, b2, b3⟩ ⟨t, p, u0, u1, u3, u4, u6, u7, u8, u9, u10, u11, u12, u13, u14, u15, u16, u17, u18, u19, u20, u21, u22, u23, u24, u25, u26, u27, u28, u29, u30, u31, u32, u33, u34, u35, u36, u37, u38, u39, ht, hp, rfl⟩
          obtain ⟨c0, c1, c2, c3⟩ := hp.c
          have hC := rightTerm_any t
          have hRno : rightT t = false → rightS s = false := fun hf => by
            rw [hRS.out, List.all_eq_false]
            exact ⟨t, List.mem_of_getElem? ht, by simp [hf]⟩
          cases hok : rightT t with
          | false =>
            have hr := Lib.hid (hRno hok)
            rw [hok] at hC
            clear hok hRno
            replace hC := Lib.hid hC
            gi_wp2_with fail
            refine ⟨trivial, ((callsIn_wide (n := 6)).2 (hC.out _)).mono ?_⟩
            rintro e w6 ⟨rfl, hb6⟩
            have hB6 := b2.trans (hb6.mono b2.size)
            gi_wp2
            refine wpIn_goto ?_
            exact ⟨keeps_of_below hb6, rfl, hr.out, hB6⟩
          | true =>
            have hr : Hid (∀ j y, j < k + 1 → (termsC s.cs)[j]? = some y → rightT y = true) := fun j y hj hy => by
              by_cases hjk : j = k
              · subst hjk; rw [ht] at hy; cases hy; exact hok
              · exact b3 j y (by omega) hy
            rw [hok] at hC
            clear hok hRno ht
            replace hC := Lib.hid hC
            gi_wp2_with fail
            refine ⟨trivial, ((callsIn_wide (n := 6)).2 (hC.out _)).mono ?_⟩
            rintro e w6 ⟨rfl, hb6⟩
            have hB6 := b2.trans (hb6.mono b2.size)
            gi_wp2
            exact ⟨keeps_of_below hb6, KeepsT.of_below hb6, b1.later hb6, hB6, hr.out⟩
        case done =>
          rintro D W hD ⟨b1, b2, b3⟩ hK
          have hDw : w.heap.size ≤ D := Nat.le_trans hs0 hD
          have hr : Hid (rightS s = true) := by
            show _ = _
            rw [hRS.out, List.all_eq_true]
            intro t ht
            obtain ⟨j, hj⟩ := List.mem_iff_getElem?.1 ht
            exact b3 j t (by simpa [termRow] using (List.getElem?_eq_some_iff.1 hj).1) hj
          clear b3 b1
          go_wp2
          rw [jump_ret]
          refine ⟨by simp, .inl ⟨_, _, rfl, run_takeDeferred hK, ?_⟩⟩
          exact ⟨_, results_tmp rfl _ _ _, by rw [hr.out]; rfl, b2.trans (belowK_b (w := w) (Nat.le_refl _) W D _ (.deferred none) hDw hK rfl rfl)⟩
        case stop =>
          rintro D c W hD ⟨rfl, hr, hB⟩ hK
          refine wpIn_goto ?_
          exact ⟨rfl, hr, hB, by simp, D, rfl, hK, Nat.le_trans hs0 hD⟩
  · rintro a' W ⟨hr, hB, hs, D, hd, hK, hD⟩
    obtain ⟨tm, df⟩ := a'
    dsimp only at hd hs
    subst hd
    go_wp2
    rw [jump_ret]
    refine ⟨by simp, .inl ⟨_, _, rfl, run_takeDeferred hK, ?_⟩⟩
    refine ⟨.bool false, by simp [results, Tryd.results78, go_sem, hs], by rw [hr], hB.trans (belowK_b (w := w) (Nat.le_refl _) W D _ (.deferred none) hD hK rfl rfl)⟩
theorem rightStep_any (s : Sp) (a : Option Addr) (n c : Nat) (w : World) (hn : n ≤ 140737488351232) (hl : s.cs.length = n) (hc : CpsAt w (.slice a n c) s.cs) (hop : ∀ x ∈ s.cs, 0 ≤ x.op) :
    Calls Tryd.prog 78 #[spV s (.slice a n c)] w fun e w' => e = .returned (.bool (rightS s)) ∧ Below w.heap.size w w' := by
  cases h : numsOk s with
  | false => rw [rightS_num h]; exact rightStep_nums s a n c w h
  | true =>
    cases hg : s.cs.all opOk with
    | true => exact rightStep_ops s a n c w hn hl hc h hg
    | false =>
      have hr : rightS s = false := by
        rw [List.all_eq_false] at hg
        obtain ⟨x, hx, ho⟩ := hg
        obtain ⟨j, hj⟩ := List.mem_iff_getElem?.1 hx
        exact rightS_op hj (by simpa using ho)
      rw [hr]
      exact rightStep_op s a n c w hn hl hc hop h hg
end Go.Proofs.YtkedifhlkiffoaaDoor.Tree
/- Contract of tree.Right. -/
namespace Go.Proofs.YtkedifhlkiffoaaDoor.Tree
open Go.ChangeShapes Go.WideShapes Go.ChangeAt Go.RowKit
set_option linter.unusedVariables false
set_option linter.unusedSimpArgs false
attribute [local go_sem] Oper.semAt_some
/-- Ways of comparing are bytes. -/
def OpsOk (L : List (Sp × Value)) : Prop := ∀ x ∈ L, ∀ c ∈ x.1.cs, 0 ≤ c.op
set_option maxRecDepth 100000 in
set_option maxHeartbeats 1000000 in
theorem right_L (a : Option Addr) (n c : Nat) (win : Int) (L : List (Sp × Value)) (hS : Short L) (w : World) (hl : L.length = n) (h : SpsL w (.slice a n c) L) (ho : OpsOk L) :
    Calls Tryd.prog 54 #[ptV (.slice a n c) win] w fun e w' => e = .returned (.bool (rightP (L.map (·.1)) win)) ∧ Below w.heap.size w w' := by
  have hb := kept_new w (.cells #[.slice a n c, .int .i64 win] 25)
  have hp := PtBox.new w (.slice a n c) win
  have hin : PtIn w.heap.size a n c win L (w.alloc (.cells #[.slice a n c, .int .i64 win] 25)) := ⟨hp, hl, h.later hb⟩
  have c0 := hp.c0
  have c1 := hp.c1
  have hln : (L.map (·.1)).length = n := by simpa using hl
  clear hp h
  refine (callsIn_wide (n := 9)).1 ?_
  refine callsIn_of_wp_marks Tryd.func54 rfl trivial ?_ rfl
  rw [wpIn_wide]
  simp only [Tryd.ntmps54, List.size_toArray, List.length_cons, List.length_nil, Nat.reduceAdd, Nat.reduceSub, Array.replicate_succ, Array.replicate_zero, List.push_toArray, List.append_toArray, List.nil_append, List.cons_append]
  go_wp2
  obtain ⟨R, hR⟩ : ∃ R, rightP (L.map (·.1)) win = R := ⟨_, rfl⟩
  refine wp_scope_jumps 0 (fun a' W => R = false ∧ Below w.heap.size w W ∧ a'.defers = [] ∧ 2 < a'.tmps.size) (fun _ _ => 0) rfl ?_ ?_
  · by_cases h1 : 1 ≤ n
    · by_cases h26 : n ≤ 26
      · have hn0 : ((n : Int) == 0) = false := by simp; omega
        have hn26 : ¬ (26 : Int) < n := by omega
        have hnp : n ≤ 140737488351232 := by omega
        cases hw : nbr win with
        | false =>
          have hRf : R = false := by rw [← hR]; exact rightP_win hw
          have H1 := Lib.hid (fun w => up_nbr win false w hw)
          clear hR hw
          go_wp2_with ((with_reducible refine (H1.out _).mono ?_); rintro e w' ⟨rfl, rfl⟩)
          refine wp_goto ?_
          exact ⟨rfl, hRf, hb, rfl, by simp⟩
        | true =>
          have H1 := Lib.hid (fun w => up_nbr win true w hw)
          have hyes := Lib.hid (fun (hall : ∀ j s, j < n → (L.map (·.1))[j]? = some s → rightS s = true) => steps_yes (win := win) (i := n) (by omega) (by omega) hw (by omega) hall)
          clear hw
          replace hR := Lib.hid hR
          replace hb := Lib.hid hb
          replace hin := Lib.hid hin
          go_wp2_with ((with_reducible refine (H1.out _).mono ?_); rintro e w' ⟨rfl, rfl⟩)
          clear c0 c1 H1
          generalize (w.alloc (.cells #[.slice a n c, .int .i64 win] 25)) = w0 at *
          generalize hB : w.heap.size = B at *
          replace hb : Hid (Below w.heap.size w w0) := by rw [hB]; exact hb
          replace hB := Lib.hid hB
          go_loopw [24] (fun t wr => ∃ i : Nat, i ≤ n ∧ t = .int .i64 i ∧ Hid (Below w0.heap.size w0 wr) ∧ Hid (∀ j s, j < i → (L.map (·.1))[j]? = some s → rightS s = true)) (fun t _ => n - (intOf t).toNat)
          case atStart => exact ⟨0, Nat.zero_le _, rfl, Below.refl _ _, fun j s hj => by omega⟩
          case round =>
            obtain ⟨i, hi, rfl, hwr, hall⟩ := hrel
            by_cases hlt : i < n
            · have hlti : (i : Int) < n := by omega
              obtain ⟨⟨s, v⟩, hx⟩ := sps_i (L := L) (i := i) (by rw [hl]; exact hlt)
              obtain ⟨b, o, rfl, z0, z1, z2, z3, z4, z5, hv⟩ := (hin.out.later hwr.out).step hx
              have hsh := hS.2 _ (List.mem_of_getElem? hx)
              have hos := ho _ (List.mem_of_getElem? hx)
              dsimp only at hsh hos
              obtain ⟨m, hm⟩ : ∃ l, s.cs.length = l := ⟨_, rfl⟩
              obtain ⟨a3, c3, rfl⟩ := cps_lit hv hm
              have hsp := SpBox.new wr s (.slice a3 m c3)
              have hk1 := kept_new wr (.cells #[.bool s.neg, .int .i64 s.kind, .int .i64 s.min, .int .i64 s.max, .bool s.strict, .slice a3 m c3] 39)
              have hC := rightStep_any s a3 m c3 (wr.alloc (.cells #[.bool s.neg, .int .i64 s.kind, .int .i64 s.min, .int .i64 s.max, .bool s.strict, .slice a3 m c3] 39)) (by omega) hm (hv.later hk1) hos
              obtain ⟨q0, q1, q2, q3, q4, q5⟩ := hsp.cells
              have hsm := map_fst hx
              clear hsp hv hm hsh hos hx
              cases hok : rightS s with
              | false =>
                have hRf : R = false := by rw [← hR.out]; exact step_no hsm hok
                rw [hok] at hC
                replace hC := Lib.hid hC
                clear hok hsm
                go_wp2_with ((with_reducible refine hC.out.mono ?_); rintro e w6 ⟨rfl, hb6⟩)
                refine wp_goto ?_
                exact ⟨rfl, hRf, kept_trans hb.out (kept_trans hwr.out (kept_trans hk1 hb6)), rfl, by simp⟩
              | true =>
                rw [hok] at hC
                replace hC := Lib.hid hC
                have hall' : Hid (∀ j s, j < i + 1 → (L.map (·.1))[j]? = some s → rightS s = true) := fun j y hj hy => by
                  by_cases hji : j = i
                  · subst hji; rw [hsm] at hy; cases hy; exact hok
                  · exact hall.out j y (by omega) hy
                clear hok hsm
                go_wp2_with ((with_reducible refine hC.out.mono ?_); rintro e w6 ⟨rfl, hb6⟩)
                have hw6 : Hid (Below w0.heap.size w0 w6) := kept_trans hwr.out (kept_trans hk1 hb6)
                clear hb6 hk1 z0 z1 z2 z3 z4 z5 q0 q1 q2 q3 q4 q5 hC
                go_roundw
                case rel => exact ⟨i + 1, by omega, by go_num, hw6, hall'⟩
                case measure => simp [intOf]; omega
            · obtain rfl : i = n := by omega
              have hRt : R = true := by rw [← hR.out]; exact hyes.out hall.out
              have hbb : Below w.heap.size w wr := kept_trans hb.out hwr.out
              go_wp2
              rw [jump_ret]
              exact ⟨_, results_tmp rfl _ _ _, by rw [hR.out, hRt]; rfl, hbb⟩
      · have hRf : R = false := by rw [← hR]; exact rightP_len (.inr (by omega))
        have hn0 : ((n : Int) == 0) = false := by simp; omega
        have hn26 : (26 : Int) < n := by omega
        go_wp2
        refine wp_goto ?_
        exact ⟨rfl, hRf, hb, rfl, by simp⟩
    · have hRf : R = false := by rw [← hR]; exact rightP_len (.inl (by omega))
      obtain rfl : n = 0 := by omega
      go_wp2
      refine wp_goto ?_
      exact ⟨rfl, hRf, hb, rfl, by simp⟩
  · rintro a' W ⟨hr, hB, hd, hs⟩
    go_wp2
    rw [jump_ret]
    exact ⟨.bool false, by simp [results, Tryd.results54, go_sem, hs], by rw [hR, hr], hB⟩
end Go.Proofs.YtkedifhlkiffoaaDoor.Tree
/- Rows of numbers as the document's own answer compares them: contract of Ints. -/
namespace Go.Proofs.YtkedifhlkiffoaaDoor.Tree
open Go.ChangeShapes Go.WideShapes Go.ChangeAt Go.RowKit
set_option linter.unusedVariables false
set_option linter.unusedSimpArgs false
attribute [local go_sem] Oper.semAt_some
/-- Numbers in memory. -/
def IntsAt (w : World) (v : Value) (l : List Int) : Prop := ∃ a c, v = .slice a l.length c ∧ CellsAt w a (ints l)
theorem IntsAt.later {w w' : World} {v : Value} {l : List Int} (h : IntsAt w v l) (hb : Below w.heap.size w w') : IntsAt w' v l := by
  obtain ⟨a, c, e, h⟩ := h; exact ⟨a, c, e, h.later hb⟩
theorem IntsAt.of_row {w : World} {base : Nat} {v : Value} {l : List Int} (h : w.ownsRow base 3 1 v l.length (ints l)) : IntsAt w v l := by
  rcases h.2 with ⟨rfl, h0⟩ | ⟨g, cap, cur, rfl, _, hg, _, _, _, ht⟩
  · have hl0 : l = [] := List.length_eq_zero_iff.1 h0
    subst hl0
    exact ⟨none, 0, rfl, .inl rfl⟩
  · refine ⟨_, _, rfl, .inr ⟨g, 0, rfl, fun j u hj => ?_⟩⟩
    have hjl : j < l.length := by have := (List.getElem?_eq_some_iff.1 hj).1; simpa using this
    rw [Nat.mul_one] at ht
    rw [← ht, List.getElem?_take_of_lt hjl] at hj
    simp only [World.cell?, hg, Nat.zero_add]
    simpa using hj
theorem IntsAt.lit {w : World} {v : Value} {l : List Int} {n : Nat} (h : IntsAt w v l) (hn : l.length = n) : ∃ a c, v = .slice a n c := by
  obtain ⟨a, c, e, -⟩ := h
  exact ⟨a, c, by rw [e, hn]⟩
theorem IntsAt.at {w : World} {a : Option Addr} {n c : Nat} {l : List Int} (h : IntsAt w (.slice a n c) l) (hn : l.length = n) {i : Nat} {x : Int} (hx : l[i]? = some x) : ∃ b o, a = some ⟨b, o, none⟩ ∧ w.cell? ⟨b, o + i, none⟩ = some (.int .i64 x) := by
  obtain ⟨a', c', e, h⟩ := h
  rw [hn] at e
  obtain ⟨rfl, rfl⟩ := slice_eq e
  have hm : (ints l)[i]? = some (.int .i64 x) := by rw [List.getElem?_map, hx]; rfl
  rcases h with h | ⟨b, o, rfl, h⟩
  · rw [h] at hm; simp at hm
  · exact ⟨b, o, rfl, h _ _ hm⟩
end Go.Proofs.YtkedifhlkiffoaaDoor.Tree
/- Append of a row, whatever it holds, to a row of the function's own; steps in memory of their own. -/
namespace Go.Proofs.YtkedifhlkiffoaaDoor.Tree
open Go.ChangeShapes Go.WideShapes Go.ChangeAt Go.RowKit
set_option linter.unusedVariables false
set_option linter.unusedSimpArgs false
section
variable {P : Program} {w : World} {base : Nat} {e : TypeId} {size : Nat}
theorem run_append_noslice (base : Nat) (t ty e : TypeId) (i : TypeInfo) (size : Nat) (ht : P.underlying t = some (.slice e)) (hi : P.info? e = some i)
    (v : Value) (n : Nat) (xs : List Value) (hown : w.ownsRow base e size v n xs) (c : Nat) :
    (Builtin.append_ #[t, t] ty #[v, .slice none 0 c]).run P w = .ok v w := by
  rcases hown.2 with ⟨rfl, rfl⟩ | ⟨g, cap, cur, rfl, _, _, hnc, _⟩
  · simp [Builtin.append_, run_underlying ht, sizeOf, typeInfo, hi, Builtin.lenOf, Builtin.firstCells]
  · simp [Builtin.append_, run_underlying ht, sizeOf, typeInfo, hi, Builtin.lenOf, Builtin.firstCells, hnc, storeCells]
/-- What lies at a (nowhere, if nothing does), behind a row of the function's own. -/
theorem run_append_cells (base : Nat) (t ty e : TypeId) (i : TypeInfo) (z : Value) (size bytes : Nat) (ht : P.underlying t = some (.slice e)) (hi : P.info? e = some i) (hz : i.zero = some z)
    (hsize : i.size = size) (hby : i.bytes = bytes) (hzs : z.cells.size = size) (hsz : 0 < size)
    (v : Value) (n : Nat) (xs : List Value) (hown : w.ownsRow base e size v n xs)
    (a : Option Addr) (m c : Nat) (news : List Value) (hl : news.length = m * size) (hnews : CellsAt w a news) (h1 : ∀ u ∈ news, u.oneCell' = true)
    (h63 : n + m ≤ maxLen) (hbytes : (n + m) * bytes ≤ 140737488355328) (hbase : base ≤ w.heap.size) :
    ∃ v' w', (Builtin.append_ #[t, t] ty #[v, .slice a m c]).run P w = .ok v' w' ∧ w'.ownsRow base e size v' (n + m) (xs ++ news) ∧ w.grownBy w' v.ownBlock := by
  cases a with
  | none =>
    rcases hnews with rfl | ⟨b, o, h, _⟩
    · have hm : m = 0 := by
        have hl0 : m * size = 0 := hl.symm
        rcases Nat.mul_eq_zero.1 hl0 with h | h
        · exact h
        · omega
      subst hm
      refine ⟨v, w, run_append_noslice base t ty e i size ht hi v n xs hown c, by simpa using hown, ?_⟩
      exact ⟨rfl, rfl, rfl, Nat.le_refl _, fun _ _ _ => rfl⟩
    · cases h
  | some ad =>
    have hc : ∀ j u, news[j]? = some u → w.cell? (ad.add j) = some u := by
      rcases hnews with rfl | ⟨b, o, h, hc⟩
      · intro j u hj; simp at hj
      · cases h
        intro j u hj
        have := hc j u hj
        by_cases h0 : j = 0
        · subst h0; simpa [Addr.add] using this
        · simpa [Addr.add, h0] using this
    obtain ⟨v', w', hr, h2, h3, -⟩ := run_append_own (P := P) w base t ty e i z size bytes ht hi hz hsize hby hzs hsz v n xs hown ad m c news hl hc h1 h63 hbytes hbase
    exact ⟨v', w', hr, h2, h3⟩
theorem wp_append_cells {o : Oper} {a : Act} {K : Act → World → Prop} {Q : Exit → Act → World → Prop} (s x : Operand) (t : TypeId)
    (ho : o.op = .call { callee := .builtin .append, args := #[s, x], argTypes := #[t, t] })
    (base : Nat) (e : TypeId) (i : TypeInfo) (z : Value) (size bytes : Nat) (ht : P.underlying t = some (.slice e)) (hi : P.info? e = some i) (hz : i.zero = some z)
    (hsize : i.size = size) (hby : i.bytes = bytes) (hzs : z.cells.size = size) (hsz : 0 < size)
    (v : Value) (n : Nat) (xs : List Value) (hs : a.eval s = v) (hown : w.ownsRow base e size v n xs)
    (ad : Option Addr) (m c : Nat) (news : List Value) (hx : a.eval x = .slice ad m c) (hl : news.length = m * size) (hnews : CellsAt w ad news) (h1 : ∀ u ∈ news, u.oneCell' = true)
    (h63 : n + m ≤ maxLen) (hbytes : (n + m) * bytes ≤ 140737488355328) (hbase : base ≤ w.heap.size)
    (h : ∀ v' w', w'.ownsRow base e size v' (n + m) (xs ++ news) → w.grownBy w' v.ownBlock → K (a.put o.dst v') w') : Oper.wp P o a w K Q := by
  obtain ⟨v', w', hr, h2, h3⟩ := run_append_cells (P := P) (w := w) base t o.type e i z size bytes ht hi hz hsize hby hzs hsz v n xs hown ad m c news hl hnews h1 h63 hbytes hbase
  unfold Oper.wp
  simp [execOp, ho, resolve, invoke, builtin, hs, hx, hr, Result.andThen]
  exact h v' w' h2 h3
theorem wpList_append_cells {ops : Array Oper} {rest : List Oper} {o : Oper} {a : Act} {Q : Exit → Act → World → Prop} (hgd : o.guard = none) (s x : Operand) (t : TypeId)
    (ho : o.op = .call { callee := .builtin .append, args := #[s, x], argTypes := #[t, t] })
    (base : Nat) (e : TypeId) (i : TypeInfo) (z : Value) (size bytes : Nat) (ht : P.underlying t = some (.slice e)) (hi : P.info? e = some i) (hz : i.zero = some z)
    (hsize : i.size = size) (hby : i.bytes = bytes) (hzs : z.cells.size = size) (hsz : 0 < size)
    (v : Value) (n : Nat) (xs : List Value) (hs : a.eval s = v) (hown : w.ownsRow base e size v n xs)
    (ad : Option Addr) (m c : Nat) (news : List Value) (hx : a.eval x = .slice ad m c) (hl : news.length = m * size) (hnews : CellsAt w ad news) (h1 : ∀ u ∈ news, u.oneCell' = true)
    (h63 : n + m ≤ maxLen) (hbytes : (n + m) * bytes ≤ 140737488355328) (hbase : base ≤ w.heap.size)
    (h : ∀ v' w', w'.ownsRow base e size v' (n + m) (xs ++ news) → w.grownBy w' v.ownBlock → wpList P ops Q rest (a.put o.dst v') w') : wpList P ops Q (o :: rest) a w :=
  wpList_plain hgd fun _ hK => wp_append_cells s x t ho base e i z size bytes ht hi hz hsize hby hzs hsz v n xs hs hown ad m c news hx hl hnews h1 h63 hbytes hbase fun v' w' h2 h3 => hK _ _ (h v' w' h2 h3)
theorem step_append_cells {ops : Array Oper} {o : Oper} {a : Act} {K : Act → World → Prop} {Q : Exit → Act → World → Prop} {E : Prop} (hgd : o.guard = none) (s x : Operand) (t : TypeId)
    (ho : o.op = .call { callee := .builtin .append, args := #[s, x], argTypes := #[t, t] })
    (base : Nat) (e : TypeId) (i : TypeInfo) (z : Value) (size bytes : Nat) (ht : P.underlying t = some (.slice e)) (hi : P.info? e = some i) (hz : i.zero = some z)
    (hsize : i.size = size) (hby : i.bytes = bytes) (hzs : z.cells.size = size) (hsz : 0 < size)
    (v : Value) (n : Nat) (xs : List Value) (hs : a.eval s = v) (hown : w.ownsRow base e size v n xs)
    (ad : Option Addr) (m c : Nat) (news : List Value) (hx : a.eval x = .slice ad m c) (hl : news.length = m * size) (hnews : CellsAt w ad news) (h1 : ∀ u ∈ news, u.oneCell' = true)
    (h63 : n + m ≤ maxLen) (hbytes : (n + m) * bytes ≤ 140737488355328) (hbase : base ≤ w.heap.size)
    (h : ∀ v' w', w'.ownsRow base e size v' (n + m) (xs ++ news) → w.grownBy w' v.ownBlock → K (a.put o.dst v') w') :
    if Region.wanted o (yielded ops a.tmps) = true then Oper.wp P o a w K Q else E := by
  have hw : Region.wanted o (yielded ops a.tmps) = true := by simp [Region.wanted, hgd]
  rw [if_pos hw]
  exact wp_append_cells s x t ho base e i z size bytes ht hi hz hsize hby hzs hsz v n xs hs hown ad m c news hx hl hnews h1 h63 hbytes hbase h
end
theorem below_grown {W W' : World} (h : W.grownBy W' none) : Below W.heap.size W W' := ⟨h.os, h.tape, h.output, h.size, fun k hk => h.block k hk (by simp)⟩
/-- A row of the function's own lies where it says. -/
theorem cells_of_row {w : World} {base : Nat} {e : TypeId} {size n : Nat} {v : Value} {xs : List Value} (h : w.ownsRow base e size v n xs) : ∃ a c, v = .slice a n c ∧ CellsAt w a xs := by
  rcases h.2 with ⟨rfl, rfl⟩ | ⟨g, cap, cur, rfl, _, hg, _, _, _, ht⟩
  · have : xs = [] := by have := h.1; simp at this; exact this
    subst this
    exact ⟨none, 0, rfl, .inl rfl⟩
  · refine ⟨_, _, rfl, .inr ⟨g, 0, rfl, fun j u hj => ?_⟩⟩
    have hjl : j < n * size := by have := (List.getElem?_eq_some_iff.1 hj).1; rw [h.1] at this; exact this
    rw [← ht, List.getElem?_take_of_lt hjl] at hj
    simp only [World.cell?, hg, Nat.zero_add]
    simpa using hj
def OwnCps (w : World) (base : Nat) (v : Value) (cs : List Cp) : Prop := w.ownsRow base 48 9 v cs.length (cpsCells cs)
theorem OwnCps.cps {w : World} {base : Nat} {v : Value} {cs : List Cp} (h : OwnCps w base v cs) : CpsAt w v cs := cells_of_row h
theorem cpsCells_len (cs : List Cp) : (cpsCells cs).length = cs.length * 9 := flat_len 9 _ (fun _ => rfl) cs
theorem spsCells_len (L : List (Sp × Value)) : (spsCells L).length = L.length * 6 := flat_len 6 _ (fun _ => rfl) L
/-- Steps in memory that begins at base. -/
def OwnSps (w : World) (base : Nat) (v : Value) (L : List (Sp × Value)) : Prop := w.ownsRow base 39 6 v L.length (spsCells L) ∧ ∀ x ∈ L, OwnCps w base x.2 x.1.cs
theorem OwnSps.sps {w : World} {base : Nat} {v : Value} {L : List (Sp × Value)} (h : OwnSps w base v L) : SpsL w v L := ⟨cells_of_row h.1, fun x hx => (h.2 x hx).cps⟩
theorem cps_one {cs : List Cp} : ∀ u ∈ cpsCells cs, u.oneCell' = true := by
  intro u hu
  unfold cpsCells at hu
  obtain ⟨c, -, hc⟩ := List.mem_flatMap.1 hu
  simp at hc
  rcases hc with rfl | rfl | rfl | rfl | rfl | rfl | rfl | rfl | rfl <;> rfl
theorem sps_one {w : World} {L : List (Sp × Value)} (h : ∀ x ∈ L, CpsAt w x.2 x.1.cs) : ∀ u ∈ spsCells L, u.oneCell' = true := by
  intro u hu
  unfold spsCells at hu
  obtain ⟨x, hx, hc⟩ := List.mem_flatMap.1 hu
  simp at hc
  obtain ⟨a, c, e, -⟩ := h x hx
  rcases hc with rfl | rfl | rfl | rfl | rfl | rfl
  all_goals first | rfl | (rw [e]; rfl)
theorem spsCells_set {L : List (Sp × Value)} {i : Nat} {s : Sp} {v : Value} (h : L[i]? = some (s, v)) (u : Value) : (spsCells L).set (i * 6 + 5) u = spsCells (L.set i (s, u)) := by
  unfold spsCells
  induction L generalizing i with
  | nil => simp at h
  | cons x r ih =>
    cases i with
    | zero =>
      simp at h
      subst h
      rfl
    | succ i =>
      rw [List.flatMap_cons, List.set_cons_succ, List.flatMap_cons, show (i + 1) * 6 + 5 = (i * 6 + 5) + 6 by omega]
      rw [← ih (by simpa using h)]
      rfl
theorem Tryd.info39 : (Tryd.prog.info? 39).map (fun i => (i.zero, i.size, i.bytes)) = some (some (.agg #[.bool false, .int .i64 0, .int .i64 0, .int .i64 0, .bool false, .slice none 0 0]), 6, 64) := by kernel_rfl
theorem Tryd.info48 : (Tryd.prog.info? 48).map (fun i => (i.zero, i.size, i.bytes)) = some (some (.agg #[.int .u8 0, .int .u8 0, .int .i64 0, .int .i64 0, .int .i64 0, .int .u8 0, .int .i64 0, .int .i64 0, .int .i64 0]), 9, 72) := by kernel_rfl
end Go.Proofs.YtkedifhlkiffoaaDoor.Tree
/- Contract of tree.Own. -/
namespace Go.Proofs.YtkedifhlkiffoaaDoor.Tree
open Go.ChangeShapes Go.WideShapes Go.ChangeAt Go.RowKit
set_option linter.unusedVariables false
set_option linter.unusedSimpArgs false
attribute [local go_sem] Oper.semAt_some
theorem keepC {X Y : World} {a : Addr} {v : Value} (h : X.grownBy Y none) (hc : X.cell? a = some v) : Y.cell? a = some v := (h.cell_far a (World.block_lt_of_cell? X _ hc) (by simp)).trans hc
theorem keepF {X Y : World} {a : Addr} {v : Value} (h : X.grownBy Y none) (hc : X.cell? a = some v) (hf : X.frozen? a = false) : Y.frozen? a = false := (h.frozen_far a (World.block_lt_of_cell? X _ hc) (by simp)).trans hf
/-- Bounds that an append asks. -/
def Fits (L : List (Sp × Value)) : Prop := L.length ≤ 1000000 ∧ ∀ x ∈ L, x.1.cs.length ≤ 1000000
/-- What Own has behind i steps. -/
def OnIn (w : World) (L : List (Sp × Value)) (v : Value) (win : Int) (i : Nat) (W : World) : Prop :=
  PtBox w.heap.size v win W ∧ W.heap[w.heap.size + 1]? = some (.cells #[.slice none 0 0, .int .i64 0] 25 (0, 0)) ∧ Below w.heap.size w W ∧
    ∃ M : List (Sp × Value), W.ownsRow w.heap.size 39 6 v L.length (spsCells M) ∧ M.map (·.1) = L.map (·.1) ∧ (∀ j x, j < i → M[j]? = some x → OwnCps W w.heap.size x.2 x.1.cs) ∧ ∀ j, i ≤ j → M[j]? = L[j]?
theorem PtBox.set0 {p : Nat} {v : Value} {win : Int} {w : World} (h : PtBox p v win w) (u : Value) : PtBox p u win (w.setCell ⟨p, 0, none⟩ u) := by
  obtain ⟨hlt, hk⟩ := Array.getElem?_eq_some_iff.1 h
  show (w.heap.modify p _)[p]? = _
  rw [Array.getElem?_eq_getElem (by rw [Array.size_modify]; exact hlt), Array.getElem_modify_self, hk]
  rfl
theorem PtBox.set1 {p : Nat} {v : Value} {win : Int} {w : World} (h : PtBox p v win w) (u : Int) : PtBox p v u (w.setCell ⟨p, 1, none⟩ (.int .i64 u)) := by
  obtain ⟨hlt, hk⟩ := Array.getElem?_eq_some_iff.1 h
  show (w.heap.modify p _)[p]? = _
  rw [Array.getElem?_eq_getElem (by rw [Array.size_modify]; exact hlt), Array.getElem_modify_self, hk]
  rfl
theorem PtBox.f {p : Nat} {v : Value} {win : Int} {w : World} (h : PtBox p v win w) (j : Nat) : w.frozen? ⟨p, j, none⟩ = false := by unfold PtBox at h; simp [World.frozen?, h]
theorem block_is {W : World} {B : Nat} {t : TypeId} {cs : Array Value} (h : W.heap[B]? = some (.cells cs t (0, 0))) (u : TypeId) (ht : u ≠ t) : ∀ r, some B = some r → ∃ o : Obj, W.heap[r]? = some o ∧ ∀ cs fz, o ≠ .cells cs u fz := by
  intro r e
  cases e
  exact ⟨_, h, by rintro cs fz ⟨⟩; exact ht rfl⟩
theorem row_step {W : World} {base g n cap : Nat} {M : List (Sp × Value)} (h : W.ownsRow base 39 6 (.slice (some ⟨g, 0, none⟩) n cap) n (spsCells M)) {i : Nat} {s : Sp} {u : Value} (hi : i < n) (hx : M[i]? = some (s, u)) :
    W.cell? ⟨g, i * 6, none⟩ = some (.bool s.neg) ∧ W.cell? ⟨g, i * 6 + 1, none⟩ = some (.int .i64 s.kind) ∧ W.cell? ⟨g, i * 6 + 2, none⟩ = some (.int .i64 s.min) ∧
      W.cell? ⟨g, i * 6 + 3, none⟩ = some (.int .i64 s.max) ∧ W.cell? ⟨g, i * 6 + 4, none⟩ = some (.bool s.strict) ∧ W.cell? ⟨g, i * 6 + 5, none⟩ = some u ∧ W.frozen? ⟨g, i * 6 + 5, none⟩ = false := by
  have H := fun j hj => flat_at 6 (fun x : Sp × Value => [Value.bool x.1.neg, .int .i64 x.1.kind, .int .i64 x.1.min, .int .i64 x.1.max, .bool x.1.strict, x.2]) (fun _ => rfl) M i _ hx j hj
  have C := fun j (hj : j < 6) => (h.cellAt (i * 6 + j) (by omega)).trans (H j hj)
  exact ⟨C 0 (by omega), C 1 (by omega), C 2 (by omega), C 3 (by omega), C 4 (by omega), C 5 (by omega), h.frozenAt _⟩
theorem OwnCps.kept {W W' : World} {base : Nat} {v : Value} {cs : List Cp} {row : Option Nat} (h : OwnCps W base v cs) (hg : W.grownBy W' row) (hrow : ∀ r, row = some r → ∃ o : Obj, W.heap[r]? = some o ∧ ∀ cs fz, o ≠ .cells cs 48 fz) : OwnCps W' base v cs := row_kept h hg hrow
theorem OnIn.next {w W W2 : World} {L M : List (Sp × Value)} {win : Int} {i g cap : Nat} {s : Sp} {u v2 : Value}
    (hp : PtBox w.heap.size (.slice (some ⟨g, 0, none⟩) L.length cap) win W) (hz : W.heap[w.heap.size + 1]? = some (.cells #[.slice none 0 0, .int .i64 0] 25 (0, 0))) (hB : Below w.heap.size w W)
    (hr : W.ownsRow w.heap.size 39 6 (.slice (some ⟨g, 0, none⟩) L.length cap) L.length (spsCells M)) (hM : M.map (·.1) = L.map (·.1)) (hold : ∀ j x, j < i → M[j]? = some x → OwnCps W w.heap.size x.2 x.1.cs) (hnew : ∀ j, i ≤ j → M[j]? = L[j]?)
    (hx : M[i]? = some (s, u)) (hg : W.grownBy W2 none) (hown : OwnCps W2 w.heap.size v2 s.cs) : OnIn w L (.slice (some ⟨g, 0, none⟩) L.length cap) win (i + 1) (W2.setCell ⟨g, i * 6 + 5, none⟩ v2) := by
  have hr2 := row_kept hr hg (fun r e => by cases e)
  obtain ⟨st1, st2⟩ := hr2.stored (i * 6 + 5) v2
  have hgt := own_is hr2
  have hgb : ∀ t, t ≠ 39 → ∀ r, some g = some r → ∃ o : Obj, W2.heap[r]? = some o ∧ ∀ cs fz, o ≠ .cells cs t fz := fun t ht r e => hgt t ht r (by simpa [Value.ownBlock] using e)
  have hp2 : PtBox w.heap.size (.slice (some ⟨g, 0, none⟩) L.length cap) win W2 := hp.later (below_grown hg)
  have hz2 := ((below_grown hg).block _ (Array.getElem?_eq_some_iff.1 hz).1).trans hz
  have ne1 : w.heap.size ≠ g := by
    rintro rfl
    obtain ⟨o, ho, hc⟩ := hgb 25 (by decide) _ rfl
    rw [show W2.heap[w.heap.size]? = _ from hp2] at ho; cases ho; exact hc _ _ rfl
  have ne2 : w.heap.size + 1 ≠ g := by
    rintro rfl
    obtain ⟨o, ho, hc⟩ := hgb 25 (by decide) _ rfl
    rw [hz2] at ho; cases ho; exact hc _ _ rfl
  have hge : w.heap.size ≤ g := by
    rcases hr.2 with ⟨e, _⟩ | ⟨g', cap', cur, e, hb, _⟩
    · cases e
    · cases e; exact hb
  refine ⟨(Below.heap_setCell W2 ⟨g, i * 6 + 5, none⟩ v2 _ ne1).trans hp2, (Below.heap_setCell W2 ⟨g, i * 6 + 5, none⟩ v2 _ ne2).trans hz2, (hB.trans ((below_grown hg).mono hB.size)).setCell (p := ⟨g, i * 6 + 5, none⟩) hge v2, M.set i (s, v2), ?_, ?_, ?_, ?_⟩
  · rw [← spsCells_set hx]; exact st1
  · rw [List.map_set, hM]
    have : (L.map (·.1))[i]? = some s := by rw [← hM, List.getElem?_map, hx]; rfl
    obtain ⟨hlt, he⟩ := List.getElem?_eq_some_iff.1 this
    apply List.ext_getElem?
    intro j
    rw [List.getElem?_set]
    split
    · rename_i e; subst e; rw [this]
    · rfl
  · intro j x hj hjx
    rw [List.getElem?_set] at hjx
    split at hjx
    · rename_i e
      subst e
      split at hjx
      · cases hjx
        exact hown.kept st2 (hgb 48 (by decide))
      · cases hjx
    · exact (hold j x (by omega) hjx |>.kept hg (fun r e => by cases e)).kept st2 (hgb 48 (by decide))
  · intro j hj
    rw [List.getElem?_set_ne (by omega)]
    exact hnew j (by omega)
end Go.Proofs.YtkedifhlkiffoaaDoor.Tree
/- Contract of the document's own Own. -/
namespace Go.Proofs.YtkedifhlkiffoaaDoor.Tree
open Go.ChangeShapes Go.WideShapes Go.ChangeAt Go.RowKit
set_option linter.unusedVariables false
set_option linter.unusedSimpArgs false
attribute [local go_sem] Oper.semAt_some
/-- What Own has behind i steps. -/
def RoIn (w : World) (L : List (Sp × Value)) (win : Int) (i : Nat) (W : World) : Prop :=
  ∃ v, PtBox w.heap.size v win W ∧ W.heap[w.heap.size + 1]? = some (.cells #[.slice none 0 0, .int .i64 0] 25 (0, 0)) ∧ Below w.heap.size w W ∧
    ∃ M : List (Sp × Value), W.ownsRow w.heap.size 39 6 v i (spsCells M) ∧ M.map (·.1) = (L.map (·.1)).take i ∧ ∀ x ∈ M, OwnCps W w.heap.size x.2 x.1.cs
theorem SpBox.set5 {p : Nat} {s : Sp} {v : Value} {w : World} (h : SpBox p s v w) (u : Value) : SpBox p s u (w.setCell ⟨p, 5, none⟩ u) := by
  obtain ⟨hlt, hk⟩ := Array.getElem?_eq_some_iff.1 h
  show (w.heap.modify p _)[p]? = _
  rw [Array.getElem?_eq_getElem (by rw [Array.size_modify]; exact hlt), Array.getElem_modify_self, hk]
  rfl
theorem SpBox.f {p : Nat} {s : Sp} {v : Value} {w : World} (h : SpBox p s v w) (j : Nat) : w.frozen? ⟨p, j, none⟩ = false := by unfold SpBox at h; simp [World.frozen?, h]
theorem block_grown {W W' : World} {row : Option Nat} {B : Nat} {cs : Array Value} {t : TypeId} (h : W.heap[B]? = some (.cells cs t (0, 0))) (hg : W.grownBy W' row) (hne : some B ≠ row) : W'.heap[B]? = some (.cells cs t (0, 0)) := (hg.block B (Array.getElem?_eq_some_iff.1 h).1 hne).trans h
theorem not_rowblock {W : World} {base : Nat} {e : TypeId} {size n : Nat} {v : Value} {xs : List Value} (h : W.ownsRow base e size v n xs) {B : Nat} {cs : Array Value} {t : TypeId} (hb : W.heap[B]? = some (.cells cs t (0, 0))) (ht : t ≠ e) : some B ≠ v.ownBlock := fun he => by
  obtain ⟨o, ho, hc⟩ := own_is h t ht B he.symm
  rw [hb] at ho; cases ho; exact hc _ _ rfl
theorem cells_of_alloc (W : World) (p : Addr) (u : Value) (cs : List Value) (t : TypeId) : CellsAt ((W.setCell p u).alloc (.cells cs.toArray t)) (some ⟨W.heap.size, 0, none⟩) cs := by
  refine .inr ⟨W.heap.size, 0, rfl, fun j v hj => ?_⟩
  have hb := World.alloc_heap_new (W.setCell p u) (.cells cs.toArray t)
  have hs : (W.setCell p u).heap.size = W.heap.size := by simp
  rw [hs] at hb
  simp only [World.cell?, hb, Nat.zero_add]
  simpa using hj
/-- Behind the comparisons' append, and their store. -/
def RoMid (w : World) (M : List (Sp × Value)) (win : Int) (i : Nat) (v : Value) (B2 : Nat) (s : Sp) (u : Value) (W : World) : Prop :=
  SpBox B2 s u W ∧ PtBox w.heap.size v win W ∧ W.heap[w.heap.size + 1]? = some (.cells #[.slice none 0 0, .int .i64 0] 25 (0, 0)) ∧ Below w.heap.size w W ∧ W.ownsRow w.heap.size 39 6 v i (spsCells M) ∧ (∀ x ∈ M, OwnCps W w.heap.size x.2 x.1.cs) ∧ OwnCps W w.heap.size u s.cs
theorem ro_mid {w wr w1 : World} {M : List (Sp × Value)} {win : Int} {i m : Nat} {v u u' : Value} {s : Sp}
    (hp : PtBox w.heap.size v win wr) (hz : wr.heap[w.heap.size + 1]? = some (.cells #[.slice none 0 0, .int .i64 0] 25 (0, 0))) (hB : Below w.heap.size w wr) (hr : wr.ownsRow w.heap.size 39 6 v i (spsCells M)) (hown : ∀ x ∈ M, OwnCps wr w.heap.size x.2 x.1.cs) (hm : s.cs.length = m)
    (hgrow : ((wr.alloc (.cells #[.bool s.neg, .int .i64 s.kind, .int .i64 s.min, .int .i64 s.max, .bool s.strict, u] 39)).alloc (.cells #[] 48)).grownBy w1 (some (wr.heap.size + 1))) (hown' : w1.ownsRow w.heap.size 48 9 u' m (cpsCells s.cs)) :
    SpBox wr.heap.size s u w1 ∧ RoMid w M win i v wr.heap.size s u' (w1.setCell ⟨wr.heap.size, 5, none⟩ u') := by
  have hg1 : wr.grownBy ((wr.alloc (.cells #[.bool s.neg, .int .i64 s.kind, .int .i64 s.min, .int .i64 s.max, .bool s.strict, u] 39)).alloc (.cells #[] 48)) none := (World.grownBy_alloc wr _ none).trans (World.grownBy_alloc _ _ none)
  have hg2 : wr.grownBy w1 none := ⟨hgrow.os.trans hg1.os, hgrow.tape.trans hg1.tape, hgrow.output.trans hg1.output, Nat.le_trans hg1.size hgrow.size, fun k hk _ => (hgrow.block k (Nat.lt_of_lt_of_le hk hg1.size) (fun e => by cases e; omega)).trans (hg1.block k hk (by simp))⟩
  have hsp0 : SpBox wr.heap.size s u ((wr.alloc (.cells #[.bool s.neg, .int .i64 s.kind, .int .i64 s.min, .int .i64 s.max, .bool s.strict, u] 39)).alloc (.cells #[] 48)) := (SpBox.new wr s u).later (kept_new _ _)
  have hsp : SpBox wr.heap.size s u w1 := block_grown hsp0 hgrow (fun e => by injection e; omega)
  refine ⟨hsp, hsp.set5 u', ?_, ?_, (hB.trans ((below_grown hg2).mono hB.size)).setCell (by have := hB.size; simpa using this) _, ?_, ?_, ?_⟩
  · exact block_far (block_grown hp hg2 (by simp)) (by have := hp.lt; omega) _ _
  · exact block_far (block_grown hz hg2 (by simp)) (by have := (Array.getElem?_eq_some_iff.1 hz).1; omega) _ _
  · refine (row_kept hr hg2 (fun r e => by cases e)).kept (grownBy_setCell_any w1 wr.heap.size 5 u') (.inr fun e => ?_)
    have := (hr.lt _ e).2
    omega
  · exact fun x hx => ((hown x hx).kept hg2 (fun r e => by cases e)).kept (grownBy_setCell_any w1 wr.heap.size 5 u') (block_is hsp 48 (by decide))
  · unfold OwnCps
    rw [hm]
    exact row_kept hown' (grownBy_setCell_any w1 wr.heap.size 5 u') (block_is hsp 48 (by decide))
theorem ro_end {w W w2 : World} {L M : List (Sp × Value)} {win : Int} {i B2 : Nat} {v u v' : Value} {s : Sp} {tmp : Obj}
    (h : RoMid w M win i v B2 s u W) (hM : M.map (·.1) = (L.map (·.1)).take i) (hx : (L.map (·.1))[i]? = some s)
    (hgrow : (W.alloc tmp).grownBy w2 v.ownBlock) (hown' : w2.ownsRow w.heap.size 39 6 v' (i + 1) (spsCells M ++ [.bool s.neg, .int .i64 s.kind, .int .i64 s.min, .int .i64 s.max, .bool s.strict, u])) : PtBox w.heap.size v win w2 ∧ RoIn w L win (i + 1) (w2.setCell ⟨w.heap.size, 0, none⟩ v') := by
  obtain ⟨-, hp, hz, hB, hr, hown, hu⟩ := h
  have hg1 : W.grownBy (W.alloc tmp) none := World.grownBy_alloc W _ none
  have hp1 := block_grown (block_grown hp hg1 (by simp)) hgrow (not_rowblock (hr.alloc _) (block_grown hp hg1 (by simp)) (by decide))
  have hz1 := block_grown (block_grown hz hg1 (by simp)) hgrow (not_rowblock (hr.alloc _) (block_grown hz hg1 (by simp)) (by decide))
  have hkeep : ∀ {v cs}, OwnCps W w.heap.size v cs → OwnCps (w2.setCell ⟨w.heap.size, 0, none⟩ v') w.heap.size v cs := fun h => ((h.kept hg1 (fun r e => by cases e)).kept hgrow (own_is (hr.alloc _) 48 (by decide))).kept (grownBy_setCell_any w2 w.heap.size 0 v') (block_is hp1 48 (by decide))
  refine ⟨hp1, v', PtBox.set0 hp1 v', block_far hz1 (by omega) _ _, ?_, M ++ [(s, u)], ?_, ?_, ?_⟩
  · refine (Below.grown (hB.trans ((below_grown hg1).mono hB.size)) hgrow (by have := hB.size; simp; omega) fun j ej => ?_).setCell (p := ⟨w.heap.size, 0, none⟩) (by simp) v'
    exact (hr.lt _ ej).1
  · have hs : spsCells (M ++ [(s, u)]) = spsCells M ++ [.bool s.neg, .int .i64 s.kind, .int .i64 s.min, .int .i64 s.max, .bool s.strict, u] := by simp [spsCells]
    rw [hs]
    exact row_kept hown' (grownBy_setCell_any w2 w.heap.size 0 v') (block_is hp1 39 (by decide))
  · rw [List.map_append, hM, List.take_add_one, hx]; rfl
  · intro x hx
    rcases List.mem_append.1 hx with hx | hx
    · exact hkeep (hown x hx)
    · obtain rfl := List.mem_singleton.1 hx
      exact hkeep hu
set_option maxRecDepth 100000 in
set_option maxHeartbeats 1000000 in
theorem refOwn_L (a : Option Addr) (n c : Nat) (win : Int) (L : List (Sp × Value)) (hF : Fits L) (w : World) (hl : L.length = n) (h : SpsL w (.slice a n c) L) :
    Calls Tryd.prog 21 #[ptV (.slice a n c) win] w fun e w' => ∃ v' L', e = .returned (ptV v' win) ∧ OwnSps w' w.heap.size v' L' ∧ L'.map (·.1) = L.map (·.1) ∧ Below w.heap.size w w' := by
  have hn1 := hF.1
  have hb2 := below_two w (.cells #[.slice a n c, .int .i64 win] 25) (.cells #[.slice none 0 0, .int .i64 0] 25)
  have hp0 : PtBox w.heap.size (.slice a n c) win ((w.alloc (.cells #[.slice a n c, .int .i64 win] 25)).alloc (.cells #[.slice none 0 0, .int .i64 0] 25)) := (PtBox.new w _ _).later (kept_new _ _)
  have k0 := hp0.c0
  have f0 := hp0.f 0
  have hRo : RoIn w L win 0 ((w.alloc (.cells #[.slice none 0 0, .int .i64 win] 25)).alloc (.cells #[.slice none 0 0, .int .i64 0] 25)) :=
    ⟨_, (PtBox.new w (.slice none 0 0) win).later (kept_new _ _), new_two _ _ _, below_two _ _ _, [], World.ownsRow_nil _ _ _ _, by simp, fun x hx => by cases hx⟩
  go_enter Tryd.func21, Tryd.ntmps21
  go_wp2
  clear hp0 k0 f0 hb2
  generalize ((w.alloc (.cells #[.slice none 0 0, .int .i64 win] 25)).alloc (.cells #[.slice none 0 0, .int .i64 0] 25)) = W1 at *
  obtain ⟨i0, hi, hz0, hz1, hz2⟩ := info_parts Tryd.info48
  replace hi := Lib.hid hi
  obtain ⟨j0, hj, hy0, hy1, hy2⟩ := info_parts Tryd.info39
  replace hj := Lib.hid hj
  replace hF := Lib.hid hF
  replace h := Lib.hid h
  go_loopw [4] (fun t wr => ∃ i : Nat, i ≤ n ∧ t = .int .i64 i ∧ Hid (RoIn w L win i wr)) (fun t _ => n - (intOf t).toNat)
  case atStart => exact ⟨0, Nat.zero_le _, rfl, hRo⟩
  case round =>
    clear hRo
    obtain ⟨i, hi', rfl, hRo⟩ := hrel
    obtain ⟨v, hp, hz, hB, M, hr, hM, hown⟩ := hRo.out
    by_cases hlt : i < n
    · have hlti : (i : Int) < n := by omega
      obtain ⟨⟨s, u⟩, hx⟩ := sps_i (L := L) (i := i) (by omega)
      obtain ⟨b, o, rfl, z0, z1, z2, z3, z4, z5, hcu⟩ := spsL_at (h.out.later hB) hl hx
      have hm1 := hF.out.2 _ (List.mem_of_getElem? hx)
      dsimp only at hm1
      obtain ⟨m, hm⟩ : ∃ l, s.cs.length = l := ⟨_, rfl⟩
      obtain ⟨a2, c2, rfl⟩ := cps_lit hcu hm
      obtain ⟨a5, c5, rfl, -⟩ := cells_of_row hr
      have hone := Lib.hid (cps_one (cs := s.cs))
      have hc9 : (cpsCells s.cs).length = m * 9 := by rw [cpsCells_len, hm]
      have hk2 := below_two wr (.cells #[.bool s.neg, .int .i64 s.kind, .int .i64 s.min, .int .i64 s.max, .bool s.strict, .slice a2 m c2] 39) (.cells #[] 48)
      obtain ⟨a2', c2', e2, hcc⟩ := hcu.later hk2
      rw [hm] at e2
      obtain ⟨rfl, rfl⟩ := slice_eq e2
      clear e2
      have hwsz : w.heap.size ≤ ((wr.alloc (.cells #[.bool s.neg, .int .i64 s.kind, .int .i64 s.min, .int .i64 s.max, .bool s.strict, .slice a2 m c2] 39)).alloc (.cells #[] 48)).heap.size := Nat.le_trans hB.size hk2.size
      have hsp0 : SpBox wr.heap.size s (.slice a2 m c2) ((wr.alloc (.cells #[.bool s.neg, .int .i64 s.kind, .int .i64 s.min, .int .i64 s.max, .bool s.strict, .slice a2 m c2] 39)).alloc (.cells #[] 48)) := (SpBox.new wr s _).later (kept_new _ _)
      have y5 := hsp0.cells.2.2.2.2.2
      have hlit : ((wr.alloc (.cells #[.bool s.neg, .int .i64 s.kind, .int .i64 s.min, .int .i64 s.max, .bool s.strict, .slice a2 m c2] 39)).alloc (.cells #[] 48)).ownsRow w.heap.size 48 9 (.slice (some ⟨wr.heap.size + 1, 0, none⟩) 0 0) 0 [] := by
        have := World.ownsRow_lit (base := w.heap.size) (e := 48) (size := 9) (wr.alloc (.cells #[.bool s.neg, .int .i64 s.kind, .int .i64 s.min, .int .i64 s.max, .bool s.strict, .slice a2 m c2] 39)) #[] 0 (by have := hB.size; simp; omega) (by unfold maxLen; omega) rfl
        simpa using this
      have hMid := Lib.hid (fun w1 u' => ro_mid (w1 := w1) (u := .slice a2 m c2) (u' := u') hp hz hB hr hown hm)
      have hsm := map_fst hx
      clear hx hcu hk2
      replace hM := Lib.hid hM
      replace hsm := Lib.hid hsm
      go_wp2_with (first
        | (at_builtin; refine wpList_append_cells rfl (.tmp 19) (.tmp 21) 37 rfl w.heap.size 48 i0 _ 9 72 Tryd.underlying37 hi.out hz0 hz1 hz2 rfl (by decide) _ 0 [] rfl hlit a2 m c2 (cpsCells s.cs) rfl hc9 hcc hone.out (by unfold maxLen; omega) (by omega) hwsz ?_; intro v' w1 hown' hgrow; rw [Nat.zero_add, List.nil_append] at hown'; obtain ⟨a6, c6, rfl, -⟩ := cells_of_row hown'; obtain ⟨hs1, hmid⟩ := hMid.out _ _ hgrow hown'; have r5 := hs1.cells.2.2.2.2.2; have r6 := hs1.f 5; obtain ⟨v0, v1, v2, v3, v4, v5⟩ := hmid.1.cells; have p0 := hmid.2.1.c0)
        | (at_builtin; refine wpList_append_cells rfl (.tmp 25) (.tmp 27) 23 rfl w.heap.size 39 j0 _ 6 64 Tryd.underlying23 hj.out hy0 hy1 hy2 rfl (by decide) _ i (spsCells M) rfl (hmid.2.2.2.2.1.alloc _) (some ⟨w1.heap.size, 0, none⟩) 1 1 [.bool s.neg, .int .i64 s.kind, .int .i64 s.min, .int .i64 s.max, .bool s.strict, .slice a6 m c6] rfl rfl (cells_of_alloc w1 _ _ _ _) (by simp [Value.oneCell']) (by unfold maxLen; omega) (by omega) (by have := hmid.2.2.2.1.size; simp at this ⊢; omega) ?_; intro v2 w2 hown2 hgrow2; obtain ⟨a7, c7, rfl, -⟩ := cells_of_row hown2; obtain ⟨hp9, hro⟩ := ro_end hmid hM.out hsm.out hgrow2 hown2; have p9 := hp9.c0; have f9 := hp9.f 0))
      have hro' := Lib.hid hro
      clear hro hown2 hgrow2 hmid hown' hgrow p9 f9 hp9 p0 v0 v1 v2 v3 v4 v5 r5 r6 hs1 hlit hsp0 y5 hcc hone hc9
      go_roundw
      case rel => exact ⟨i + 1, by omega, by go_num, hro'⟩
      case measure => simp [intOf]; omega
    · obtain rfl : i = n := by omega
      have y0 := hp.c0
      have y1 := hp.c1
      have hM' : M.map (·.1) = L.map (·.1) := by rw [hM, List.take_of_length_le (by simp; omega)]
      have hMl : M.length = i := by have := congrArg List.length hM'; simp at this; omega
      obtain ⟨a5, c5, rfl, -⟩ := cells_of_row hr
      have hz' : PtBox (w.heap.size + 1) (.slice none 0 0) 0 wr := hz
      have r0 := hz'.c0
      have r1 := hz'.f 0
      have hz2 := hz'.set0 (.slice a5 i c5)
      have r2 := hz2.c1
      have r3 := hz2.f 1
      have hz3 := hz2.set1 win
      have hr2 := row_kept hr (grownBy_setCell_any wr (w.heap.size + 1) 0 (.slice a5 i c5)) (block_is hz 39 (by decide))
      have hr3 := row_kept hr2 (grownBy_setCell_any _ (w.heap.size + 1) 1 (.int .i64 win)) (block_is hz2 39 (by decide))
      have hall3 : ∀ x ∈ M, OwnCps ((wr.setCell ⟨w.heap.size + 1, 0, none⟩ (.slice a5 i c5)).setCell ⟨w.heap.size + 1, 1, none⟩ (.int .i64 win)) w.heap.size x.2 x.1.cs := fun x hx =>
        ((hown x hx).kept (grownBy_setCell_any wr (w.heap.size + 1) 0 (.slice a5 i c5)) (block_is hz 48 (by decide))).kept (grownBy_setCell_any _ (w.heap.size + 1) 1 (.int .i64 win)) (block_is hz2 48 (by decide))
      have hB3 := (hB.setCell (p := ⟨w.heap.size + 1, 0, none⟩) (by simp) (.slice a5 i c5)).setCell (p := ⟨w.heap.size + 1, 1, none⟩) (by simp) (.int .i64 win)
      clear hr hr2 hown hM
      go_wp2
      exact bodyPost_ret (v := ptV (.slice a5 i c5) win) (results_cell_row rfl _ _ (w.heap.size + 1) 25 _ (0, 0) _ rfl hz3 Tryd.underlying25 rfl (by kernel_rfl)) rfl ⟨_, rfl, M, ⟨by rw [hMl]; exact hr3, hall3⟩, hM', hB3⟩
end Go.Proofs.YtkedifhlkiffoaaDoor.Tree
/- Contract of the document's own Right at patterns of any length. -/
namespace Go.Proofs.YtkedifhlkiffoaaDoor.Tree
open Go.ChangeShapes Go.WideShapes Go.ChangeAt Go.RowKit
set_option linter.unusedVariables false
set_option linter.unusedSimpArgs false
attribute [local go_sem] Oper.semAt_some
set_option maxRecDepth 100000 in
set_option maxHeartbeats 2000000 in
theorem refRight_L (a : Option Addr) (n c : Nat) (L : List (Sp × Value)) (win : Int) (w : World) (hn : L.length = n) (hL : n ≤ 140737488351232) (hm : ∀ x ∈ L, x.1.cs.length ≤ 140737488351232) (h : SpsL w (.slice a n c) L) :
    Calls Tryd.prog 19 #[ptV (.slice a n c) win] w fun e w' => e = .returned (.bool (rightP (L.map (·.1)) win)) ∧ Below w.heap.size w w' := by
  obtain ⟨R, hR⟩ : ∃ R, rightP (L.map (·.1)) win = R := ⟨_, rfl⟩
  rw [hR]
  have hR := Lib.hid hR
  have hm := Lib.hid hm
  have hb := (Below.refl w.heap.size w).alloc (Nat.le_refl _) (.cells #[.slice a n c, .int .i64 win] 25)
  have hp : PtIn _ a n c win L _ := ⟨PtBox.new w (.slice a n c) win, hn, h.later hb⟩
  clear h
  go_enter Tryd.func19, Tryd.ntmps19
  have hnR : Hid ((L.map (·.1)).length = n) := by show _ = _; rw [List.length_map]; exact hn
  have hlenR := Lib.hid (rightP_len (ss := L.map (·.1)) (win := win))
  have k0 := hp.1.c0
  have k1 := hp.1.c1
  replace hb := Lib.hid hb
  replace hp := Lib.hid hp
  have hn' := Lib.hid hn
  clear hn
  by_cases h1 : n < 1
  · have hRf : R = false := by rw [← hR.out]; exact hlenR.out (.inl (by rw [hnR.out]; exact h1))
    subst hRf
    clear hR hlenR
    go_wp2_with fail
    go_ret
    exact ⟨rfl, hb.out⟩
  by_cases h26 : 26 < n
  · have hRf : R = false := by rw [← hR.out]; exact hlenR.out (.inr (by rw [hnR.out]; exact h26))
    subst hRf
    clear hR hlenR
    go_wp2_with fail
    go_ret
    exact ⟨rfl, hb.out⟩
  clear hlenR
  cases hwin : nbr win
  · have hRf : R = false := by rw [← hR.out]; exact rightP_win hwin
    subst hRf
    replace hwin := Lib.hid hwin
    clear hR
    go_wp2_with ((with_reducible refine (number_any _ _ _ hwin).mono ?_); rintro e w2 ⟨rfl, rfl⟩)
    go_ret
    exact ⟨rfl, hb.out⟩
  replace hwin := Lib.hid hwin
  go_wp2_with ((with_reducible refine (number_any _ _ _ hwin).mono ?_); rintro e w2 ⟨rfl, rfl⟩)
  obtain ⟨B, hB⟩ : ∃ B, w.heap.size = B := ⟨_, rfl⟩
  generalize w.alloc (.cells #[.slice a n c, .int .i64 win] 25) = w0 at *
  rw [hB] at hp k0 k1 ⊢
  clear hB k0 k1
  go_loopw [3] (fun t wr => ∃ i : Nat, i ≤ n ∧ t = .int .i64 i ∧ Hid (Below w0.heap.size w0 wr) ∧ Hid (∀ j s, j < i → (L.map (·.1))[j]? = some s → rightS s = true)) (fun t _ => n - (intOf t).toNat)
  case atStart => exact ⟨0, Nat.zero_le _, rfl, Below.refl _ _, fun j s hj => by omega⟩
  case round =>
    obtain ⟨i, hi, rfl, hwr, hall⟩ := hrel
    have hpr := Lib.hid (hp.out.later hwr.out)
    have k0 := hpr.out.1.c0
    by_cases hlt : i < n
    · obtain ⟨⟨s, v⟩, hx⟩ := sps_i (L := L) (i := i) (by rw [hn'.out]; exact hlt)
      obtain ⟨b, o, rfl, z0, z1, z2, z3, z4, z5, a2, c2, hv, hcc⟩ := hpr.out.step hx
      have hm2 := hm.out _ (List.mem_of_getElem? hx)
      dsimp only at hm2
      subst hv
      have hsm : Hid ((L.map (·.1))[i]? = some s) := by show _ = _; rw [List.getElem?_map, hx]; rfl
      have hno := Lib.hid (step_no (win := win) hsm.out)
      have hlti : (i : Int) < n := by omega
      obtain ⟨m, hm3⟩ : ∃ m, s.cs.length = m := ⟨_, rfl⟩
      have hcc2 : CpsAt wr (.slice a2 m c2) s.cs := by rw [← hm3]; exact ⟨_, _, rfl, hcc⟩
      rw [hm3] at z5 hm2
      have hb2 := (Below.refl wr.heap.size wr).alloc (Nat.le_refl _) (.cells #[.bool s.neg, .int .i64 s.kind, .int .i64 s.min, .int .i64 s.max, .bool s.strict, .slice a2 m c2] 39)
      have hs : SpIn _ s a2 m c2 _ := ⟨SpBox.new wr s (.slice a2 m c2), hm3, hcc2.later hb2⟩
      obtain ⟨s0, s1, s2, s3, s4, s5⟩ := hs.1.cells
      replace hs := Lib.hid hs
      replace hb2 := Lib.hid hb2
      replace hm3 := Lib.hid hm3
      clear hx hcc hcc2
      cases hk1 : nbr s.kind
      · replace hk1 := Lib.hid hk1
        have hRf : R = false := by rw [← hR.out]; exact hno.out (rightS_kind hk1.out)
        subst hRf
        clear hR hno
        go_wp2_with ((with_reducible refine (number_any _ _ _ hk1).mono ?_); rintro e w2 ⟨rfl, rfl⟩)
        go_ret
        exact ⟨rfl, kept_trans hb.out (kept_trans hwr.out hb2.out)⟩
      replace hk1 := Lib.hid hk1
      cases hk2 : nbr s.min
      · replace hk2 := Lib.hid hk2
        have hRf : R = false := by rw [← hR.out]; exact hno.out (rightS_min hk2.out)
        subst hRf
        clear hR hno
        go_wp2_with (first | ((with_reducible refine (number_any _ _ _ hk1).mono ?_); rintro e w2 ⟨rfl, rfl⟩) | ((with_reducible refine (number_any _ _ _ hk2).mono ?_); rintro e w2 ⟨rfl, rfl⟩))
        go_ret
        exact ⟨rfl, kept_trans hb.out (kept_trans hwr.out hb2.out)⟩
      replace hk2 := Lib.hid hk2
      cases hk3 : nbr s.max
      · replace hk3 := Lib.hid hk3
        have hRf : R = false := by rw [← hR.out]; exact hno.out (rightS_max hk3.out)
        subst hRf
        clear hR hno
        go_wp2_with (first | ((with_reducible refine (number_any _ _ _ hk1).mono ?_); rintro e w2 ⟨rfl, rfl⟩) | ((with_reducible refine (number_any _ _ _ hk2).mono ?_); rintro e w2 ⟨rfl, rfl⟩) | ((with_reducible refine (number_any _ _ _ hk3).mono ?_); rintro e w2 ⟨rfl, rfl⟩))
        go_ret
        exact ⟨rfl, kept_trans hb.out (kept_trans hwr.out hb2.out)⟩
      replace hk3 := Lib.hid hk3
      go_wp2_with (first | ((with_reducible refine (number_any _ _ _ hk1).mono ?_); rintro e w2 ⟨rfl, rfl⟩) | ((with_reducible refine (number_any _ _ _ hk2).mono ?_); rintro e w2 ⟨rfl, rfl⟩) | ((with_reducible refine (number_any _ _ _ hk3).mono ?_); rintro e w2 ⟨rfl, rfl⟩))
      have hw1 := Lib.hid (kept_trans hwr.out hb2.out)
      obtain ⟨S, hS⟩ : ∃ S, wr.heap.size = S := ⟨_, rfl⟩
      generalize wr.alloc (.cells #[.bool s.neg, .int .i64 s.kind, .int .i64 s.min, .int .i64 s.max, .bool s.strict, .slice a2 m c2] 39) = w1 at *
      rw [hS] at hs s0 s1 s2 s3 s4 s5 ⊢
      clear s0 s1 s2 s3 s4 s5 hS z0 z1 z2 z3 z4 z5 k0 hb2
      go_loopw [5] (fun t wi => ∃ k : Nat, k ≤ m ∧ t = .int .i64 k ∧ Hid (Below w1.heap.size w1 wi) ∧ Hid (∀ j c, j < k → s.cs[j]? = some c → rightC c = true)) (fun t _ => m - (intOf t).toNat)
      case atStart => exact ⟨0, Nat.zero_le _, rfl, Below.refl _ _, fun j s hj => by omega⟩
      case round =>
        obtain ⟨k, hk, rfl, hwi, hallc⟩ := hrel
        have hsi := Lib.hid (hs.out.later hwi.out)
        obtain ⟨-, -, -, -, -, s5⟩ := hsi.out.1.cells
        by_cases hltk : k < m
        · obtain ⟨x, hx⟩ : ∃ x, s.cs[k]? = some x := ⟨_, List.getElem?_eq_getElem (by rw [hm3.out]; exact hltk)⟩
          obtain ⟨b2, o2, rfl, y0, y1, y2, y3, y4, y5, y6, y7, y8⟩ := hsi.out.cmp hx
          have hnc := Lib.hid (fun e : rightC x = false => hno.out (cmp_no hx e))
          have hxs := Lib.hid hx
          have hltki : (k : Int) < m := by omega
          have hfin : Hid (∀ w', Below (wr.alloc (.cells #[.int .u8 x.op, .int .u8 x.l.k, .int .i64 x.l.n, .int .i64 x.l.s, .int .i64 x.l.r, .int .u8 x.r.k, .int .i64 x.r.n, .int .i64 x.r.s, .int .i64 x.r.r] 48)).heap.size (wr.alloc (.cells #[.int .u8 x.op, .int .u8 x.l.k, .int .i64 x.l.n, .int .i64 x.l.s, .int .i64 x.l.r, .int .u8 x.r.k, .int .i64 x.r.n, .int .i64 x.r.s, .int .i64 x.r.r] 48)) w' → Below w1.heap.size w1 w') := fun w' h => kept_trans (kept_alloc hwi.out _) h
          have hbx := CpBox.new wr x
          obtain ⟨q0, q1, q2, q3, q4, q5, q6, q7, q8⟩ := hbx.cells
          clear hx
          by_cases hop : 1 ≤ x.op ∧ x.op < 7
          · have hop1 : ¬ x.op < 1 := by omega
            have hop2 : ¬ 7 ≤ x.op := by omega
            have hop' := Lib.hid hop
            clear hop
            have hT := Lib.hid (term_any x.l)
            have hT2 := Lib.hid (term_any x.r)
            cases hl : rightT x.l
            · have hRf : R = false := by rw [← hR.out]; exact hnc.out (rightC_l hl)
              rw [hl] at hT
              subst hRf
              clear hR hno hnc hl
              go_wp2_with ((with_reducible refine (hT.out _).mono ?_); rintro e w2 ⟨rfl, hb2⟩)
              go_ret
              exact ⟨rfl, kept_trans hb.out (kept_trans hw1.out (hfin.out _ hb2))⟩
            rw [hl] at hT
            replace hl := Lib.hid hl
            cases hr : rightT x.r
            · have hRf : R = false := by rw [← hR.out]; exact hnc.out (rightC_r hr)
              rw [hr] at hT2
              subst hRf
              clear hR hno hnc hr
              go_wp2_with fail
              (with_reducible refine (hT.out _).mono ?_)
              rintro e w2 ⟨rfl, hb2⟩
              obtain ⟨q0, q1, q2, q3, q4, q5, q6, q7, q8⟩ := (hbx.later hb2).cells
              go_wp2_with ((with_reducible refine (hT2.out _).mono ?_); rintro e w3 ⟨rfl, hb3⟩)
              go_ret
              exact ⟨rfl, kept_trans hb.out (kept_trans hw1.out (hfin.out _ (kept_trans hb2 hb3)))⟩
            rw [hr] at hT2
            replace hr := Lib.hid hr
            go_wp2_with fail
            (with_reducible refine (hT.out _).mono ?_)
            rintro e w2 ⟨rfl, hb2⟩
            obtain ⟨q0, q1, q2, q3, q4, q5, q6, q7, q8⟩ := (hbx.later hb2).cells
            go_wp2_with ((with_reducible refine (hT2.out _).mono ?_); rintro e w3 ⟨rfl, hb3⟩)
            refine ⟨⟨k + 1, by omega, by go_num, hfin.out _ (kept_trans hb2 hb3), fun j c hj hc => ?_⟩, by simp [intOf]; omega⟩
            by_cases hjk : j = k
            · subst hjk; have := hxs.out; rw [this] at hc; cases hc; exact rightC_yes hop'.out.1 hop'.out.2 hl.out hr.out
            · exact hallc.out j c (by omega) hc
          · have hRf : R = false := by rw [← hR.out]; exact hnc.out (rightC_op hop)
            subst hRf
            clear hR hno hnc
            by_cases hop1 : x.op < 1
            · clear hop
              go_wp2_with fail
              go_ret
              exact ⟨rfl, kept_trans hb.out (kept_trans hw1.out (hfin.out _ (Below.refl _ _)))⟩
            · have hop2 : 7 ≤ x.op := by omega
              clear hop
              go_wp2_with fail
              go_ret
              exact ⟨rfl, kept_trans hb.out (kept_trans hw1.out (hfin.out _ (Below.refl _ _)))⟩
        · have hltki : ¬ (k : Int) < m := by omega
          have hs' := Lib.hid (cmps_yes (i := k) hk1.out hk2.out hk3.out (by rw [hm3.out]; omega) hallc.out)
          go_wp2_with fail
          refine ⟨⟨i + 1, by omega, by go_num, kept_trans hw1.out hwi.out, fun j s' hj hs2 => ?_⟩, by simp [intOf]; omega⟩
          by_cases hji : j = i
          · subst hji; have := hsm.out; rw [this] at hs2; cases hs2; exact hs'.out
          · exact hall.out j s' (by omega) hs2
    · have hRt : R = true := by rw [← hR.out]; exact steps_yes (i := i) (by rw [hnR.out]; omega) (by rw [hnR.out]; omega) hwin.out (by rw [hnR.out]; omega) hall.out
      subst hRt
      clear hR
      have hlti : ¬ (i : Int) < n := by omega
      go_wp2_with fail
      go_ret
      exact ⟨rfl, kept_trans hb.out hwr.out⟩
end Go.Proofs.YtkedifhlkiffoaaDoor.Tree
/- The contracts at any value where steps lie; bounds of patterns that are not too great. -/
namespace Go.Proofs.YtkedifhlkiffoaaDoor.Tree
open Go.ChangeShapes Go.WideShapes Go.ChangeAt Go.RowKit
set_option linter.unusedVariables false
set_option linter.unusedSimpArgs false
attribute [local go_sem] Oper.semAt_some
theorem SpsL.lit {w : World} {v : Value} {L : List (Sp × Value)} (h : SpsL w v L) {n : Nat} (hn : L.length = n) : ∃ a c, v = .slice a n c := by
  obtain ⟨⟨a, c, e, -⟩, -⟩ := h
  exact ⟨a, c, by rw [e, hn]⟩
theorem CpsAt.lit {w : World} {v : Value} {l : List Cp} (h : CpsAt w v l) {n : Nat} (hn : l.length = n) : ∃ a c, v = .slice a n c := by
  obtain ⟨a, c, e, -⟩ := h
  exact ⟨a, c, by rw [e, hn]⟩
/-- Bounds that hold of every pattern asked here. -/
def Small (ss : List Sp) : Prop := ss.length ≤ 41 ∧ ∀ s ∈ ss, s.cs.length ≤ 100
theorem Small.fair {ss : List Sp} (h : Small ss) : Fair ss := ⟨Nat.le_trans h.1 (by omega), h.2⟩
theorem Small.len {L : List (Sp × Value)} (h : Small (L.map (·.1))) : L.length ≤ 41 := by simpa using h.1
theorem Small.cmps {L : List (Sp × Value)} (h : Small (L.map (·.1))) : ∀ x ∈ L, x.1.cs.length ≤ 100 := fun x hx => h.2 _ (List.mem_map.2 ⟨x, hx, rfl⟩)
theorem Small.short {L : List (Sp × Value)} (h : Small (L.map (·.1))) : Short L := ⟨Nat.le_trans h.len (by omega), fun x hx => Nat.le_trans (h.cmps x hx) (by omega)⟩
theorem Small.fits {L : List (Sp × Value)} (h : Small (L.map (·.1))) : Fits L := ⟨Nat.le_trans h.len (by omega), fun x hx => Nat.le_trans (h.cmps x hx) (by omega)⟩
theorem Small.of_great {ss : List Sp} (h : great ss = false) : Small ss ∧ ss.length ≤ 40 ∧ ∀ s ∈ ss, s.cs.length ≤ 20 := by
  unfold great at h
  rw [Bool.or_eq_false_iff] at h
  obtain ⟨h1, h2⟩ := h
  have hl : ss.length ≤ 40 := by simpa using h2
  rw [List.take_of_length_le (by omega), List.any_eq_false] at h1
  have hc : ∀ s ∈ ss, s.cs.length ≤ 20 := fun s hs => by simpa using h1 s hs
  exact ⟨⟨by omega, fun s hs => Nat.le_trans (hc s hs) (by omega)⟩, hl, hc⟩
theorem right_V {v : Value} {L : List (Sp × Value)} (win : Int) (hS : Short L) (ho : OpsOk L) (w : World) (h : SpsL w v L) :
    Calls Tryd.prog 54 #[ptV v win] w fun e w' => e = .returned (.bool (rightP (L.map (·.1)) win)) ∧ Below w.heap.size w w' := by
  obtain ⟨a, c, rfl⟩ := h.lit rfl
  exact right_L a _ c win L hS w rfl h ho
theorem refRight_V {v : Value} {L : List (Sp × Value)} (win : Int) (hS : Short L) (w : World) (h : SpsL w v L) :
    Calls Tryd.prog 19 #[ptV v win] w fun e w' => e = .returned (.bool (rightP (L.map (·.1)) win)) ∧ Below w.heap.size w w' := by
  obtain ⟨a, c, rfl⟩ := h.lit rfl
  exact refRight_L a _ c L win w rfl hS.1 hS.2 h
theorem great_V {v : Value} {L : List (Sp × Value)} (win : Int) (w : World) (hL : L.length ≤ 140737488351232) (h : SpsL w v L) :
    Calls Tryd.prog 22 #[ptV v win] w fun e w' => e = .returned (.bool (great (L.map (·.1)))) ∧ Below w.heap.size w w' := by
  obtain ⟨a, c, rfl⟩ := h.lit rfl
  exact great_L a c L win w hL h
theorem refOwn_V {v : Value} {L : List (Sp × Value)} (win : Int) (hF : Fits L) (w : World) (h : SpsL w v L) :
    Calls Tryd.prog 21 #[ptV v win] w fun e w' => ∃ v' L', e = .returned (ptV v' win) ∧ OwnSps w' w.heap.size v' L' ∧ L'.map (·.1) = L.map (·.1) ∧ Below w.heap.size w w' := by
  obtain ⟨a, c, rfl⟩ := h.lit rfl
  exact refOwn_L a _ c win L hF w rfl h
theorem refSame_V {v u : Value} {L M : List (Sp × Value)} (p q : Int) (h1 : Short L) (h2 : Short M) (w : World) (hv : SpsL w v L) (hu : SpsL w u M) :
    Calls Tryd.prog 16 #[ptV v p, ptV u q] w fun e w' => e = .returned (.bool (decide (L.map (·.1) = M.map (·.1) ∧ p = q))) ∧ Below w.heap.size w w' := by
  obtain ⟨a, c, rfl⟩ := hv.lit rfl
  obtain ⟨b, d, rfl⟩ := hu.lit rfl
  exact refSame_L a b _ _ c d L M p q w rfl rfl h1 h2 hv hu
theorem OwnCps.later {w w' : World} {base : Nat} {v : Value} {cs : List Cp} (h : OwnCps w base v cs) (hb : Below w.heap.size w w') : OwnCps w' base v cs := by
  refine ⟨h.1, ?_⟩
  rcases h.2 with ⟨e, h0⟩ | ⟨g, cap, cur, e, hb1, hg, r⟩
  · exact .inl ⟨e, h0⟩
  · exact .inr ⟨g, cap, cur, e, hb1, (hb.block _ (Array.getElem?_eq_some_iff.1 hg).1).trans hg, r⟩
theorem OwnSps.later {w w' : World} {base : Nat} {v : Value} {L : List (Sp × Value)} (h : OwnSps w base v L) (hb : Below w.heap.size w w') : OwnSps w' base v L := by
  refine ⟨⟨h.1.1, ?_⟩, fun x hx => (h.2 x hx).later hb⟩
  rcases h.1.2 with ⟨e, h0⟩ | ⟨g, cap, cur, e, hb1, hg, r⟩
  · exact .inl ⟨e, h0⟩
  · exact .inr ⟨g, cap, cur, e, hb1, (hb.block _ (Array.getElem?_eq_some_iff.1 hg).1).trans hg, r⟩
theorem lit_ints (W : World) (l : List Int) : IntsAt (W.alloc (.cells (ints l).toArray 3)) (.slice (some ⟨W.heap.size, 0, none⟩) l.length l.length) l := by
  refine ⟨some ⟨W.heap.size, 0, none⟩, l.length, rfl, .inr ⟨W.heap.size, 0, rfl, fun j v hj => ?_⟩⟩
  have hb := World.alloc_heap_new W (.cells (ints l).toArray 3)
  simp only [World.cell?, hb]
  simpa using hj
end Go.Proofs.YtkedifhlkiffoaaDoor.Tree
