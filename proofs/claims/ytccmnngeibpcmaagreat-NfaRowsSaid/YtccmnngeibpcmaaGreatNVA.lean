/-
  Several texts in one: NA NB NC ND NE NF NG NH NI NJ NL NN NO.
-/
import Derived.Test.YtccmnngeibpcmaaGreatUZA
import Derived.StillTailTactics
import Derived.Test.YtccmnngeibpcmaaGreatUZB
import Derived.Test.YtccmnngeibpcmaaGreatCC
import Derived.Stop.RegionWithIn
import Derived.Sort.QuietIn
import Derived.BigQuiet
/- An automaton's states as Lean data, and where they lie in memory; which may be; the way to a state; nfa.behind, nfa.way. -/
namespace Go.Proofs.YtccmnngeibpcmaaGreat.Tree
open Go.ChangeShapes Go.WideShapes Go.ChangeAt Go.RowKit
set_option linter.unusedVariables false
set_option linter.unusedSimpArgs false
set_option maxRecDepth 100000
attribute [local go_sem] Oper.semAt_some
/-- A state. -/
structure St where
  step : Int
  place : Int
  strict : Bool
  gs : List Int
  ahead : Int
  last : Bool
deriving DecidableEq
instance : Inhabited St := ⟨⟨0, 0, false, [], 0, false⟩⟩
abbrev stV (s : St) (v : Value) : Value := .agg #[.int .i64 s.step, .int .i64 s.place, .bool s.strict, v, .int .i64 s.ahead, .bool s.last]
def stsCells (L : List (St × Value)) : List Value := L.flatMap fun x => [.int .i64 x.1.step, .int .i64 x.1.place, .bool x.1.strict, x.2, .int .i64 x.1.ahead, .bool x.1.last]
theorem stsCells_len (L : List (St × Value)) : (stsCells L).length = L.length * 6 := flat_len 6 _ (fun _ => rfl) L
theorem stsCells_app (L M : List (St × Value)) : stsCells (L ++ M) = stsCells L ++ stsCells M := by simp [stsCells]
/-- States in memory, with the slices of their guards. -/
def StsL (W : World) (v : Value) (L : List (St × Value)) : Prop := (∃ a c, v = .slice a L.length c ∧ CellsAt W a (stsCells L)) ∧ ∀ x ∈ L, NmsAt W x.2 x.1.gs
theorem StsL.later {W W' : World} {v : Value} {L : List (St × Value)} (h : StsL W v L) (hb : Below W.heap.size W W') : StsL W' v L := by
  obtain ⟨⟨a, c, e, h⟩, h2⟩ := h; exact ⟨⟨a, c, e, h.later hb⟩, fun x hx => (h2 x hx).later hb⟩
theorem StsL.lit {W : World} {v : Value} {L : List (St × Value)} (h : StsL W v L) {n : Nat} (hn : L.length = n) : ∃ a c, v = .slice a n c := by
  obtain ⟨⟨a, c, e, -⟩, -⟩ := h; exact ⟨a, c, by rw [e, hn]⟩
/-- A state's cells. -/
theorem StsL.at {W : World} {a : Option Addr} {n c : Nat} {L : List (St × Value)} (h : StsL W (.slice a n c) L) {i : Nat} {s : St} {v : Value} (hx : L[i]? = some (s, v)) :
    ∃ b o, a = some ⟨b, o, none⟩ ∧ W.cell? ⟨b, o + i * 6, none⟩ = some (.int .i64 s.step) ∧ W.cell? ⟨b, o + i * 6 + 1, none⟩ = some (.int .i64 s.place) ∧ W.cell? ⟨b, o + i * 6 + 2, none⟩ = some (.bool s.strict) ∧
      W.cell? ⟨b, o + i * 6 + 3, none⟩ = some v ∧ W.cell? ⟨b, o + i * 6 + 4, none⟩ = some (.int .i64 s.ahead) ∧ W.cell? ⟨b, o + i * 6 + 5, none⟩ = some (.bool s.last) := by
  obtain ⟨⟨a', c', e, hc⟩, -⟩ := h
  obtain ⟨rfl, -⟩ : a = a' ∧ c = c' := by cases e; exact ⟨rfl, rfl⟩
  have H := fun j hj => flat_at 6 (fun x : St × Value => [Value.int .i64 x.1.step, .int .i64 x.1.place, .bool x.1.strict, x.2, .int .i64 x.1.ahead, .bool x.1.last]) (fun _ => rfl) L i _ hx j hj
  rcases hc with h0 | ⟨b, o, rfl, hc⟩
  · have := H 0 (by omega)
    rw [show L.flatMap _ = [] from h0] at this
    simp at this
  · refine ⟨b, o, rfl, ?_⟩
    have C := fun j (hj : j < 6) u hu => hc (i * 6 + j) u ((H j hj).trans hu)
    have e : ∀ j, o + (i * 6 + j) = o + i * 6 + j := fun j => by omega
    simp only [e] at C
    exact ⟨C 0 (by omega) _ rfl, C 1 (by omega) _ rfl, C 2 (by omega) _ rfl, C 3 (by omega) _ rfl, C 4 (by omega) _ rfl, C 5 (by omega) _ rfl⟩
def stA (ss : List St) (i : Nat) : St := (ss[i]?).getD default
theorem stA_of {ss : List St} {i : Nat} {s : St} (h : ss[i]? = some s) : stA ss i = s := by unfold stA; rw [h]; rfl
/-- The place of a state behind that one. -/
def behindP (ss : List St) (a : Int) : Int := if a = -1 then 0 else (stA ss a.toNat).place + 1
/-- Whether state i may be so. -/
def stOk (ss : List St) (i : Nat) (s : St) : Bool := decide (0 ≤ s.step ∧ s.step < 6 ∧ -1 ≤ s.ahead ∧ s.ahead < i) && decide (s.place = behindP ss s.ahead)
def rightA (ss : List St) : Bool := (List.range ss.length).all fun i => stOk ss i (stA ss i)
theorem rightA_at {ss : List St} (h : rightA ss = true) {i : Nat} (hi : i < ss.length) : 0 ≤ (stA ss i).step ∧ (stA ss i).step < 6 ∧ -1 ≤ (stA ss i).ahead ∧ (stA ss i).ahead < i ∧ (stA ss i).place = behindP ss (stA ss i).ahead := by
  unfold rightA at h
  rw [List.all_eq_true] at h
  have := h i (by simpa using hi)
  simp [stOk] at this
  exact ⟨this.1.1, this.1.2.1, this.1.2.2.1, this.1.2.2.2, this.2⟩
/-- The steps on the way to a state. -/
def wayF (ss : List St) : Nat → Nat → List Int
  | 0, _ => []
  | f + 1, j => (if (stA ss j).ahead = -1 then [] else wayF ss f (stA ss j).ahead.toNat) ++ [(stA ss j).step]
def wayL (ss : List St) (j : Nat) : List Int := wayF ss (j + 1) j
theorem wayF_fuel {ss : List St} (h : rightA ss = true) : ∀ (f j : Nat), j < f → j < ss.length → wayF ss f j = wayF ss (j + 1) j := by
  intro f
  induction f using Nat.strongRecOn with
  | _ f ih =>
    intro j hj hl
    obtain ⟨g, rfl⟩ : ∃ g, f = g + 1 := ⟨f - 1, by omega⟩
    obtain ⟨-, -, h3, h4, -⟩ := rightA_at h hl
    rw [wayF, wayF]
    split
    · rfl
    · rw [ih g (by omega) _ (by omega) (by omega)]
      by_cases e : j = (stA ss j).ahead.toNat + 1
      · rw [← e]
      · rw [ih j (by omega) _ (by omega) (by omega)]
theorem wayL_eq {ss : List St} (h : rightA ss = true) {j : Nat} (hj : j < ss.length) : wayL ss j = (if (stA ss j).ahead = -1 then [] else wayL ss (stA ss j).ahead.toNat) ++ [(stA ss j).step] := by
  obtain ⟨-, -, h3, h4, -⟩ := rightA_at h hj
  unfold wayL
  rw [wayF]
  split
  · rfl
  · rw [wayF_fuel h j _ (by omega) (by omega)]
theorem wayL_len {ss : List St} (h : rightA ss = true) : ∀ j, j < ss.length → ((wayL ss j).length : Int) = (stA ss j).place + 1 ∧ 0 ≤ (stA ss j).place ∧ (stA ss j).place ≤ j := by
  intro j
  induction j using Nat.strongRecOn with
  | _ j ih =>
    intro hj
    obtain ⟨-, -, h3, h4, h5⟩ := rightA_at h hj
    rw [wayL_eq h hj, h5]
    unfold behindP
    split
    · simp
    · obtain ⟨k1, k2, k3⟩ := ih (stA ss j).ahead.toNat (by omega) (by omega)
      simp only [List.length_append, List.length_singleton]
      refine ⟨?_, ?_, ?_⟩ <;> omega
theorem behind_any (a : Option Addr) (n c : Nat) (L : List (St × Value)) (hn : L.length = n) (hl : n ≤ 1000000) (x : Int) (hx : -1 ≤ x) (hx2 : x < n) (hp : ∀ s ∈ L.map (·.1), -1000000 ≤ s.place ∧ s.place ≤ 1000000) (w : World) (h : StsL w (.slice a n c) L) :
    Calls Tryz.prog 34 #[.slice a n c, .int .i64 x] w fun e w' => e = .returned (.int .i64 (behindP (L.map (·.1)) x)) ∧ w' = w := by
  by_cases h1 : x = -1
  · subst h1
    clear h hp
    go_enter Tryz.func34, Tryz.ntmps34
    go_wp2
    go_ret
    exact ⟨rfl, rfl⟩
  · obtain ⟨i, rfl⟩ : ∃ i : Nat, x = i := ⟨x.toNat, by omega⟩
    obtain ⟨⟨s, gv⟩, hs⟩ : ∃ y, L[i]? = some y := ⟨_, List.getElem?_eq_getElem (by omega)⟩
    obtain ⟨b, o, rfl, z0, z1, z2, z3, z4, z5⟩ := h.at hs
    have hA : stA (L.map (·.1)) i = s := stA_of (by simp [hs])
    have hps := hp s (List.mem_map_of_mem (List.mem_of_getElem? hs))
    have e : behindP (L.map (·.1)) (i : Int) = s.place + 1 := by unfold behindP; rw [if_neg (by omega), Int.toNat_natCast, hA]
    rw [e]
    have hne : ((i : Int) == -1) = false := by simp
    obtain ⟨q, hq⟩ : ∃ q, s.place = q := ⟨_, rfl⟩
    rw [hq] at z1 hps ⊢
    clear h hp hs hA e hq h1
    go_enter Tryz.func34, Tryz.ntmps34
    go_wp2
    go_ret
    exact ⟨rfl, rfl⟩
end Go.Proofs.YtccmnngeibpcmaaGreat.Tree
/- nfa.way. -/
namespace Go.Proofs.YtccmnngeibpcmaaGreat.Tree
open Go.ChangeShapes Go.WideShapes Go.ChangeAt Go.RowKit
set_option linter.unusedVariables false
set_option linter.unusedSimpArgs false
set_option maxRecDepth 100000
attribute [local go_sem] Oper.semAt_some
/-- What stands behind the label, where a body is one region and a scope that begins with another one and the label. -/
def afterLabel : Option Code → Code
  | some (.seq _ (.scope (.seq _ (.seq _ x)))) => x
  | _ => .skip
theorem jump_weak {l : Nat} {J J' : Act → World → Prop} {Q : Exit → Act → World → Prop} (h : ∀ a w, J a w → J' a w) : ∀ e a w, Exit.jump l J Q e a w → Exit.jump l J' Q e a w := by
  intro e a w hh
  cases e <;> first | exact hh | exact ⟨hh.1, h _ _ hh.2⟩
theorem ints_set (xs : List Int) (j : Nat) (x : Int) : ints (xs.set j x) = (ints xs).set j (.int .i64 x) := by simp [ints, List.map_set]
/-- A row that is being filled from its end. -/
theorem fill_set (q : Nat) (suf : List Int) (x : Int) : (List.replicate (q + 1) (0 : Int) ++ suf).set q x = List.replicate q 0 ++ x :: suf := by
  rw [List.replicate_succ', List.append_assoc, List.set_append_right _ _ (by simp)]
  simp
set_option maxHeartbeats 1000000 in
theorem way_any (a : Option Addr) (n c : Nat) (L : List (St × Value)) (hn : L.length = n) (hl : n ≤ 1000000) (hR : rightA (L.map (·.1)) = true) (i : Nat) (hi : i < n) (w : World) (h : StsL w (.slice a n c) L) :
    Calls Tryz.prog 30 #[.slice a n c, .int .i64 i] w fun e w' => ∃ u, e = .returned u ∧ w'.ownsRow w.heap.size 3 1 u (wayL (L.map (·.1)) i).length (ints (wayL (L.map (·.1)) i)) ∧ Below w.heap.size w w' := by
  obtain ⟨ss, hss⟩ : ∃ ss, L.map (·.1) = ss := ⟨_, rfl⟩
  rw [hss] at hR ⊢
  have hsl : ss.length = n := by rw [← hss]; simpa using hn
  have hat : Hid (∀ X, Below w.heap.size w X → ∀ j, j < n → ∃ b o, a = some ⟨b, o, none⟩ ∧ X.cell? ⟨b, o + j * 6, none⟩ = some (.int .i64 (stA ss j).step) ∧ X.cell? ⟨b, o + j * 6 + 1, none⟩ = some (.int .i64 (stA ss j).place) ∧ X.cell? ⟨b, o + j * 6 + 4, none⟩ = some (.int .i64 (stA ss j).ahead)) := fun X hX j hj => by
    obtain ⟨⟨s, gv⟩, hs⟩ : ∃ y, L[j]? = some y := ⟨_, List.getElem?_eq_getElem (by omega)⟩
    obtain ⟨b, o, e, z0, z1, -, -, z4, -⟩ := (h.later hX).at hs
    have hA : stA ss j = s := stA_of (by rw [← hss]; simp [hs])
    rw [hA]
    exact ⟨b, o, e, z0, z1, z4⟩
  obtain ⟨full, hfu⟩ : ∃ full, wayL ss i = full := ⟨_, rfl⟩
  obtain ⟨hm1, hm2, hm3⟩ := wayL_len hR i (by omega)
  rw [hfu] at hm1 ⊢
  obtain ⟨m, hm⟩ : ∃ m, full.length = m := ⟨_, rfl⟩
  rw [hm] at hm1 ⊢
  have hm' : 1 ≤ m ∧ m ≤ 1000000 := by omega
  obtain ⟨g, hg⟩ : ∃ g, w.heap.size = g := ⟨_, rfl⟩
  replace hm1 := Lib.hid hm1
  replace hm := Lib.hid hm
  replace hfu := Lib.hid hfu
  replace hg := Lib.hid hg
  have hmx : Tryz.prog.follows .mixedOrders = true := by kernel_rfl
  obtain ⟨J, hJ⟩ : ∃ J : Act → World → Prop, J = (fun a' w' => ∃ (j : Nat) (suf : List Int) (u6 u7 u8 u9 u10 u11 u12 u13 u14 u15 u16 u17 u18 u19 u20 u21 u22 u23 u24 u25 u26 u27 u28 u29 u30 u31 u32 : Value), a' = { tmps := #[.slice a n c, .int .i64 j, undef, undef, .slice none 0 0, .slice (some ⟨g, 0, none⟩) m m, u6, u7, u8, u9, u10, u11, u12, u13, u14, u15, u16, u17, u18, u19, u20, u21, u22, u23, u24, u25, u26, u27, u28, u29, u30, u31, u32], defers := [] } ∧
      j < n ∧ w'.ownsRow g 3 1 (.slice (some ⟨g, 0, none⟩) m m) m (ints (List.replicate (wayL ss j).length 0 ++ suf)) ∧ wayL ss j ++ suf = full ∧ Below w.heap.size w w') := ⟨_, rfl⟩
  obtain ⟨Q, hQ⟩ : ∃ Q, Q = bodyPost Tryz.prog Tryz.f30 (fun e w' => ∃ u, e = .returned u ∧ w'.ownsRow w.heap.size 3 1 u m (ints full) ∧ Below w.heap.size w w') := ⟨_, rfl⟩
  have passX : ∀ a w0, J a w0 → Code.wp Tryz.prog (afterLabel Tryz.f30.body) (Exit.jump 0 (fun a' w' => J a' w' ∧ (intOf (a'.tmps.getD 1 undef)).toNat < (intOf (a.tmps.getD 1 undef)).toNat) Q) a w0 := by
    intro a' w' hj
    rw [hJ] at hj
    obtain ⟨j, suf, u6, u7, u8, u9, u10, u11, u12, u13, u14, u15, u16, u17, u18, u19, u20, u21, u22, u23, u24, u25, u26, u27, u28, u29, u30, u31, u32, rfl, hjn, hO, hful, hB⟩ := hj
    obtain ⟨b, o, rfl, z0, z1, z4⟩ := hat.out _ hB j hjn
    obtain ⟨k1, k2, k3⟩ := wayL_len hR j (by omega)
    obtain ⟨-, -, r3, r4, -⟩ := rightA_at hR (show j < ss.length by omega)
    have hwe := wayL_eq hR (show j < ss.length by omega)
    obtain ⟨q, hq⟩ : ∃ q, (wayL ss j).length = q + 1 := ⟨(wayL ss j).length - 1, by omega⟩
    have hpq : (stA ss j).place = (q : Int) := by omega
    have hqm : q < m := by
      have h1 := congrArg List.length hful
      rw [List.length_append, hq, hm.out] at h1
      omega
    rw [hpq] at z1
    rw [hq] at hO
    have hst := (hO.stored q (.int .i64 (stA ss j).step)).1
    rw [← ints_set, fill_set] at hst
    have hqi : (q : Int) < m := by omega
    have hx0 := hO.cellAt q (by omega)
    obtain ⟨x0, hx0'⟩ : ∃ x, w'.cell? ⟨g, q, none⟩ = some x := by
      rw [hx0]
      exact ⟨_, List.getElem?_eq_getElem (by have := hO.1; omega)⟩
    have d0 : w'.drew.cell? ⟨b, o + j * 6, none⟩ = some (.int .i64 (stA ss j).step) := z0
    have d1 : w'.drew.cell? ⟨b, o + j * 6 + 1, none⟩ = some (.int .i64 q) := z1
    have d2 : w'.drew.cell? ⟨g, q, none⟩ = some x0 := hx0'
    have d3 : w'.drew.frozen? ⟨g, q, none⟩ = false := hO.frozenAt q
    have hji : (j : Int) < n := by omega
    have hBs := hB.setCell (p := ⟨g, q, none⟩) (by have := hg.out; simp; omega) (.int .i64 (stA ss j).step)
    have hB2 : Below w.heap.size w (w'.setCell ⟨g, q, none⟩ (.int .i64 (stA ss j).step)).drew := kept_trans hBs (below_drew _)
    obtain ⟨b', o', e', -, -, y4⟩ := hat.out _ hB2 j hjn
    cases e'
    have hst2 : (w'.setCell ⟨g, q, none⟩ (.int .i64 (stA ss j).step)).drew.ownsRow g 3 1 (.slice (some ⟨g, 0, none⟩) m m) m (ints (List.replicate q 0 ++ (stA ss j).step :: suf)) := row_later hst (below_drew _)
    replace hQ := Lib.hid hQ
    replace hJ := Lib.hid hJ
    replace hst2 := Lib.hid hst2
    replace hB2 := Lib.hid hB2
    replace hwe := Lib.hid hwe
    replace hful := Lib.hid hful
    replace hq := Lib.hid hq
    obtain ⟨sp, hsp⟩ : ∃ sp, (stA ss j).step = sp := ⟨_, rfl⟩
    obtain ⟨ah, hah⟩ : ∃ ah, (stA ss j).ahead = ah := ⟨_, rfl⟩
    rw [hsp] at hst2 hB2 hwe d0 y4
    rw [hah] at y4 hwe r3 r4
    dsimp only [afterLabel, Tryz.f30]
    clear hO z0 z1 z4 hx0 hx0' hst hBs hB k1 k2 k3 hsp hah hpq
    refine wp_seq ?_
    refine wp_region_still_tail 12 hmx (by kernel_rfl) ?_
    change wpStill _ _ w'.drew _ _ _
    simp only [List.take_succ_cons, List.take_zero, List.drop_succ_cons, List.drop_zero]
    repeat still_step
    refine wpStill_nil ?_
    change wpList _ _ _ _ _ w'.drew
    by_cases hah : ah = -1
    · subst hah
      have hne : ((-1 : Int) == -1) = true := by decide
      go_wp2_with fail
      show Q _ _ _
      rw [hQ.out]
      have hwl := hwe.out
      simp only [if_true, List.nil_append] at hwl
      have hq0 : q = 0 := by have := hq.out; rw [hwl] at this; simp at this; exact this
      subst hq0
      have hfl : full = sp :: suf := by have := hful.out; rw [hwl] at this; exact this.symm
      have ho := hst2.out
      rw [List.replicate_zero, List.nil_append, ← hfl] at ho
      exact bodyPost_ret (results_tmp rfl _ _ _) rfl ⟨_, rfl, by rw [hg.out]; exact ho, hB2.out⟩
    · have hne : ((ah : Int) == -1) = false := by simpa using hah
      obtain ⟨j', hj'⟩ : ∃ j' : Nat, ah = j' := ⟨ah.toNat, by omega⟩
      subst hj'
      replace hah := Lib.hid hah
      go_wp2_with fail
      refine wp_goto ?_
      refine ⟨rfl, ?_, ?_⟩
      · rw [hJ.out]
        have hwl := hwe.out
        rw [if_neg (by omega), Int.toNat_natCast] at hwl
        have hlq : (wayL ss j').length = q := by have := congrArg List.length hwl; rw [hq.out] at this; simp at this; omega
        refine ⟨j', sp :: suf, _, _, _, _, _, _, _, _, _, _, _, _, _, _, _, _, _, _, _, _, _, _, _, _, _, _, _, rfl, by omega, ?_, ?_, hB2.out⟩
        · rw [hlq]; exact hst2.out
        · rw [← hful.out, hwl, List.append_assoc]; rfl
      · simp [intOf]; omega
  rw [hQ] at passX
  clear hQ
  have hat0 := hat.out w (Below.refl _ _) i hi
  obtain ⟨b, o, rfl, z0, z1, z4⟩ := hat0
  have hpl : (stA ss i).place = (m : Int) - 1 := by have := hm1.out; omega
  rw [hpl] at z1
  have hii : (i : Int) < n := by omega
  obtain ⟨i0, hi0, hz0, hz1, hz2⟩ := info_parts Tryz.info3
  have hb8 : i0.bytes * m ≤ 281474976710656 := by rw [hz2]; omega
  replace hi0 := Lib.hid hi0
  have hwm : IntKind.wrap .i64 ((m : Int) - 1 + 1) = (m : Int) := by rw [IntKind.wrap_i64]; omega
  have hm64 : (m : Int) ≤ 1000000 := by omega
  have hmk : (madeCells (Value.int .i64 0).cells (m * 1)).toList = ints (List.replicate m 0) := by rw [made_zero m]; simp [ints]
  replace hmk := Lib.hid hmk
  obtain ⟨mm, hmm⟩ : ∃ mm, (m : Int) - 1 = mm := ⟨_, rfl⟩
  rw [hmm] at z1 hwm
  have hmm1 : mm + 1 = (m : Int) := by omega
  replace hmm := Lib.hid hmm
  go_enter Tryz.func30, Tryz.ntmps30
  go_wp2_with fail
  refine wp_scope_jumps 0 J (fun a' _ => (intOf (a'.tmps.getD 1 undef)).toNat) rfl ?_ (fun a w hj => wp_seq (wp_skip (passX a w hj)))
  go_upto_region 2 with (refine wpList_make_full _ rfl _ _ 28 rfl w.heap.size 3 i0 (.int .i64 0) 1 Tryz.underlying28 hi0.out hz0 hz1 .i64 .i64 _ _ m rfl rfl (by first | rfl | omega) (by first | rfl | omega) hb8 (by unfold maxLen; omega) (Nat.le_refl _) ?_; intro w5 hown hgrow)
  rw [hmk.out] at hown
  go_step3
  rename_i K hK
  refine hK _ _ (Code.wp_mono (jump_weak fun _ _ hh => hh.1) (passX _ _ ?_))
  rw [hJ]
  refine ⟨i, [], _, _, _, _, _, _, _, _, _, _, _, _, _, _, _, _, _, _, _, _, _, _, _, _, _, _, _, by rw [hg.out], hi, ?_, by rw [List.append_nil]; exact hfu.out, below_grown hgrow⟩
  rw [hfu.out, hm.out, List.append_nil, ← hg.out]
  exact hown
end Go.Proofs.YtccmnngeibpcmaaGreat.Tree
/- slices.All at states: contract of the iterator. -/
namespace Go.Proofs.YtccmnngeibpcmaaGreat.Tree
open Go.ChangeShapes Go.WideShapes Go.ChangeAt Go.RowKit
set_option linter.unusedVariables false
set_option linter.unusedSimpArgs false
set_option maxRecDepth 100000
attribute [local go_sem] Oper.semAt_some
/-- A state in a box. -/
def StBox (p : Nat) (s : St) (v : Value) (w : World) : Prop := w.heap[p]? = some (.cells #[.int .i64 s.step, .int .i64 s.place, .bool s.strict, v, .int .i64 s.ahead, .bool s.last] 41 (0, 0))
theorem StBox.new (w : World) (s : St) (v : Value) : StBox w.heap.size s v (w.alloc (.cells #[.int .i64 s.step, .int .i64 s.place, .bool s.strict, v, .int .i64 s.ahead, .bool s.last] 41)) := World.alloc_heap_new w _
theorem StBox.lt {p : Nat} {s : St} {v : Value} {w : World} (h : StBox p s v w) : p < w.heap.size := (Array.getElem?_eq_some_iff.1 h).1
theorem StBox.later {p : Nat} {s : St} {v : Value} {w w' : World} (h : StBox p s v w) (hb : Below w.heap.size w w') : StBox p s v w' := (hb.block _ h.lt).trans h
theorem StBox.cells {p : Nat} {s : St} {v : Value} {w : World} (h : StBox p s v w) : w.cell? ⟨p, 0, none⟩ = some (.int .i64 s.step) ∧ w.cell? ⟨p, 1, none⟩ = some (.int .i64 s.place) ∧ w.cell? ⟨p, 2, none⟩ = some (.bool s.strict) ∧ w.cell? ⟨p, 3, none⟩ = some v ∧ w.cell? ⟨p, 4, none⟩ = some (.int .i64 s.ahead) ∧ w.cell? ⟨p, 5, none⟩ = some (.bool s.last) := by
  unfold StBox at h
  simp [World.cell?, h]
/-- A slice of states in a box. -/
def SsIn (B : Nat) (a : Option Addr) (n c : Nat) (L : List (St × Value)) (W : World) : Prop := W.heap[B]? = some (.cells #[.slice a n c] 27 (0, 0)) ∧ L.length = n ∧ StsL W (.slice a n c) L
theorem SsIn.lt {B : Nat} {a : Option Addr} {n c : Nat} {L : List (St × Value)} {W : World} (h : SsIn B a n c L W) : B < W.heap.size := (Array.getElem?_eq_some_iff.1 h.1).1
theorem SsIn.later {B : Nat} {a : Option Addr} {n c : Nat} {L : List (St × Value)} {W W' : World} (h : SsIn B a n c L W) (hb : Below W.heap.size W W') : SsIn B a n c L W' := ⟨(hb.block _ h.lt).trans h.1, h.2.1, h.2.2.later hb⟩
theorem SsIn.c0 {B : Nat} {a : Option Addr} {n c : Nat} {L : List (St × Value)} {W : World} (h : SsIn B a n c L W) : W.cell? ⟨B, 0, none⟩ = some (.slice a n c) := by have := h.1; simp [World.cell?, this]
def stOf (L : List (St × Value)) (i : Nat) : Value := match L[i]? with | some x => stV x.1 x.2 | none => undef
def stRow (L : List (St × Value)) : List (Array Value) := (List.range L.length).map fun i : Nat => #[.int .i64 (i : Int), stOf L i]
theorem stRow_len (L : List (St × Value)) : (stRow L).length = L.length := by simp [stRow]
theorem stRow_at {L : List (St × Value)} {i : Nat} {s : St} {v : Value} (h : L[i]? = some (s, v)) : (stRow L)[i]?.getD #[] = #[.int .i64 (i : Int), stV s v] := by
  have hl := (List.getElem?_eq_some_iff.1 h).1
  have hg := (List.getElem?_eq_some_iff.1 h).2
  simp [stRow, hl, stOf, hg]
theorem stRow_size {L : List (St × Value)} {k : Nat} (h : k < (stRow L).length) : ((stRow L)[k]?.getD #[]).size = 2 := by
  simp [stRow] at h ⊢
  simp [h]
theorem allS_any (a : Option Addr) (n c : Nat) (w : World) :
    Calls Tryz.prog 33 #[.slice a n c] w fun e w' => e = .returned (.func (.func 53) #[] #[.pointer (some ⟨w.heap.size, 0, none⟩)]) ∧ w' = w.alloc (.cells #[.slice a n c] 27) := by
  go_enter Tryz.func33, Tryz.ntmps33
  go_wp2
  go_ret
  exact ⟨rfl, rfl⟩
set_option maxHeartbeats 1000000 in
theorem allS_tells (N B : Nat) (hN : 1 ≤ N) (a : Option Addr) (n c : Nat) (L : List (St × Value)) (hn : n ≤ 140737488351232) (w : World) :
    TellsRowT True Fence.wide N Tryz.prog 53 #[.pointer (some ⟨B, 0, none⟩)] (SsIn B a n c L) 41 (stRow L) w := by
  intro l J Jx W hW hK hDr hY h0
  clear hW
  rw [stRow_len] at *
  have hlen : Hid (L.length = n) := (hK _ _ h0).2.1
  replace hY := Lib.hid hY
  replace hDr := Lib.hid hDr
  replace hK := Lib.hid hK
  have k0 : W.cell? ⟨B, 0, none⟩ = some (.slice a n c) := (hK.out _ _ h0).c0
  refine callsIn_of_wp Tryz.func53 rfl trivial ?_ rfl
  simp only [Tryz.ntmps53, List.size_toArray, List.length_cons, List.length_nil, Nat.reduceAdd, Nat.reduceSub, Array.replicate_succ, Array.replicate_zero, List.push_toArray, List.append_toArray, List.nil_append, List.cons_append]
  gi_wp2_with fail
  clear k0
  gi_loopw [7] (fun u wr => ∃ j : Nat, j ≤ n ∧ u = .int .i64 j ∧ J j wr) (fun u _ => n - (intOf u).toNat)
  case atStart => exact ⟨0, Nat.zero_le _, rfl, h0⟩
  case round =>
    clear h0
    obtain ⟨j, hj, rfl, hJs⟩ := hrel
    by_cases hlt : j < n
    · have hlti : (j : Int) < n := by omega
      obtain ⟨⟨s, v⟩, hx⟩ : ∃ y, L[j]? = some y := ⟨_, List.getElem?_eq_getElem (by rw [hlen.out]; exact hlt)⟩
      obtain ⟨b, o, rfl, z0, z1, z2, z3, z4, z5⟩ := (hK.out _ _ hJs).2.2.at hx
      obtain ⟨a2, c2, hv, -⟩ := (hK.out _ _ hJs).2.2.2 _ (List.mem_of_getElem? hx)
      dsimp only at hv
      subst hv
      have Y0 := hY.out j (by rw [hlen.out]; exact hlt)
      rw [stRow_at hx] at Y0
      unfold stV at Y0
      generalize hm : s.gs.length = m at *
      have hb := kept_new wr (.cells #[.int .i64 s.step, .int .i64 s.place, .bool s.strict, .slice a2 m c2, .int .i64 s.ahead, .bool s.last] 41)
      have hJ1 := hDr.out _ _ _ hJs hb
      replace Y0 := Y0 _ hJ1
      clear hb hDr hJs hm hY hJ1 hK hx
      have hsp := StBox.new wr s (.slice a2 m c2)
      obtain ⟨q0, q1, q2, q3, q4, q5⟩ := hsp.cells
      clear hsp
      obtain ⟨fn, tmps, assign, body, hy, hR⟩ := Y0
      gi_wp2
      refine hR.mono ?_
      rintro e W3 (⟨rfl, hkt, hJ3⟩ | ⟨-, rfl, hJx3⟩)
      · gi_wp2
        go_roundw
        case rel => exact ⟨j + 1, hlt, by go_num, hJ3⟩
        case measure => simp [intOf]; omega
      · gi_wp2
        refine bodyPost_ret (results_none rfl _ _ _) rfl ?_
        exact ⟨⟨_, rfl⟩, .inr ⟨_, hJx3⟩⟩
    · obtain rfl : j = n := by omega
      gi_wp2
      go_end0
      exact ⟨⟨_, rfl⟩, .inl (by rw [hlen.out]; exact hJs)⟩
end Go.Proofs.YtccmnngeibpcmaaGreat.Tree
/- nfa.Right. -/
namespace Go.Proofs.YtccmnngeibpcmaaGreat.Tree
open Go.ChangeShapes Go.WideShapes Go.ChangeAt Go.RowKit
set_option linter.unusedVariables false
set_option linter.unusedSimpArgs false
set_option maxRecDepth 100000
attribute [local go_sem] Oper.semAt_some
theorem any_round {F : Fence} {n l : Nat} {P : Program} {md : Region.Mode} {ops : Array Oper} {Q : Exit → Act → World → Prop} (hro : F.round = none) (hnd : ∀ o ∈ ops.toList, ∀ c, o.op ≠ .defer c) :
    ∀ (fuel : Nat) (listed : Array Bool) (a : Act) (w : World), wpAnyIn F n P md ops Q fuel listed a w → wpAnyIn (F.inRound l) n P md ops Q fuel listed a w := by
  intro fuel
  induction fuel with
  | zero => exact fun _ _ _ h => h
  | succ fuel ih =>
    intro listed a w h
    refine ⟨h.1, fun i hi => ?_⟩
    have hs := h.2 i hi
    unfold wpOpIn at hs ⊢
    cases ho : ops[i]? with
    | none => rw [ho] at hs; exact ih _ _ _ hs
    | some o =>
      rw [ho] at hs
      dsimp only at hs ⊢
      have hd : ∀ c, o.op ≠ .defer c := hnd o (by
        obtain ⟨hlt, rfl⟩ := Array.getElem?_eq_some_iff.1 ho
        exact Array.getElem_mem_toList hlt)
      by_cases hw : Region.wanted o (yielded ops a.tmps) = true
      · rw [if_pos hw] at hs ⊢
        have hs2 := Oper.wpIn_mono (fun a w => ih (listed.setIfInBounds i true) a w) hs
        unfold Oper.wpIn at hs2 ⊢
        refine ⟨hs2.1, ?_⟩
        have e1 : Oper.semAt (F.inRound l).round a.eval o = execOp a.eval o := Oper.semAt_some l a.eval o hd
        have e2 : Oper.semAt F.round a.eval o = execOp a.eval o := by rw [hro]; rfl
        rw [e1]
        rw [e2] at hs2
        exact hs2.2
      · rw [if_neg hw] at hs ⊢
        exact ⟨hs.1, ih _ _ _ hs.2⟩
/-- A drawn region that only reads, in a round of a range over a function: one walk in the order of the text serves every order. -/
theorem region_quiet_round {F : Fence} {k n id : Nat} {P : Program} {Q : Exit → Act → World → Prop} {a : Act} {w : World} {l : List Oper} (hro : F.round = none) (hnd : ∀ o ∈ l, ∀ c, o.op ≠ .defer c) (hm : P.follows .mixedOrders = true) (hB : Region.lexB .any l.toArray = true)
    (h : wpQuietIn F n P l.toArray (fun w' => ∃ n, w' = w.drewN n) (fun a' => ∀ w', (∃ n, w' = w.drewN n) → Q .normal a' w') l a) : (Code.region id l.toArray true).wpIn (F.inRound k) n P Q a w := by
  simp only [Region.lexB, Bool.and_eq_true] at hB
  refine wpIn_region_any hm (any_round hro (by simpa using hnd) _ _ _ _ (wpAnyIn_of_quiet (C := fun w' => ∃ n, w' = w.drewN n) (Q := fun a' => ∀ w', (∃ n, w' = w.drewN n) → Q .normal a' w') hro (fun _ w' hw' h => h w' hw') _ _ _ _ ⟨1, rfl⟩ ?_))
  have := wpAnyQIn_lex (F := F) (n := n) (C := fun w' => ∃ n, w' = w.drewN n) (md := .any) hB.1 l 0 (Array.replicate l.toArray.size false) a (by simp) (by simpa using hB.2) h
  simpa using this
abbrev auV (v av : Value) (win : Int) : Value := .agg #[v, av, .int .i64 win]
/-- An automaton in a box. -/
def AuBox (p : Nat) (v av : Value) (win : Int) (w : World) : Prop := w.heap[p]? = some (.cells #[v, av, .int .i64 win] 30 (0, 0))
theorem AuBox.new (w : World) (v av : Value) (win : Int) : AuBox w.heap.size v av win (w.alloc (.cells #[v, av, .int .i64 win] 30)) := World.alloc_heap_new w _
theorem AuBox.lt {p : Nat} {v av : Value} {win : Int} {w : World} (h : AuBox p v av win w) : p < w.heap.size := (Array.getElem?_eq_some_iff.1 h).1
theorem AuBox.later {p : Nat} {v av : Value} {win : Int} {w w' : World} (h : AuBox p v av win w) (hb : Below w.heap.size w w') : AuBox p v av win w' := (hb.block _ h.lt).trans h
theorem AuBox.c0 {p : Nat} {v av : Value} {win : Int} {w : World} (h : AuBox p v av win w) : w.cell? ⟨p, 0, none⟩ = some v := by unfold AuBox at h; simp [World.cell?, h]
theorem AuBox.c1 {p : Nat} {v av : Value} {win : Int} {w : World} (h : AuBox p v av win w) : w.cell? ⟨p, 1, none⟩ = some av := by unfold AuBox at h; simp [World.cell?, h]
theorem AuBox.c2 {p : Nat} {v av : Value} {win : Int} {w : World} (h : AuBox p v av win w) : w.cell? ⟨p, 2, none⟩ = some (.int .i64 win) := by unfold AuBox at h; simp [World.cell?, h]
/-- From state k on all may be so. -/
def restA (ss : List St) (k : Nat) : Bool := ((List.range ss.length).drop k).all fun i => stOk ss i (stA ss i)
theorem restA_zero (ss : List St) : restA ss 0 = rightA ss := rfl
theorem restA_step {ss : List St} {k : Nat} (h : k < ss.length) : restA ss k = (stOk ss k (stA ss k) && restA ss (k + 1)) := by
  unfold restA
  rw [List.drop_eq_getElem_cons (by simpa using h)]
  simp
theorem restA_end {ss : List St} {k : Nat} (h : ss.length ≤ k) : restA ss k = true := by
  unfold restA
  rw [List.drop_eq_nil_of_le (by simpa using h)]
  rfl
/-- What the loop over the states has. -/
def RiI (w : World) (a : Option Addr) (n c : Nat) (av : Value) (win : Int) (L : List (St × Value)) (B : Nat) (k : Nat) (W : World) : Prop :=
  restA (L.map (·.1)) k = rightA (L.map (·.1)) ∧ AuBox w.heap.size (.slice a n c) av win W ∧ W.heap[B]? = some (.cells #[.slice a n c] 27 (0, 0)) ∧ Below w.heap.size w W
theorem RiI.own (w : World) (a : Option Addr) (n c : Nat) (av : Value) (win : Int) (L : List (St × Value)) (P : Nat) (B : Nat) (hB : w.heap.size ≤ B) : OwnFrom B (RiI w a n c av win L P) := by
  rintro k X Y r ⟨e, h1, h2, h3⟩ hg hrow
  exact ⟨e, ownFrom_block _ (fun _ : Unit => _) 30 B () X Y r h1 hg hrow, ownFrom_block _ (fun _ : Unit => _) 27 B () X Y r h2 hg hrow, ownFrom_below (Nat.le_refl _) hB k X Y r h3 hg hrow⟩
theorem RiI.later {w : World} {a : Option Addr} {n c : Nat} {av : Value} {win : Int} {L : List (St × Value)} {B k : Nat} {X Y : World} (h : RiI w a n c av win L B k X) (hb : Below X.heap.size X Y) : RiI w a n c av win L B k Y :=
  ⟨h.1, h.2.1.later hb, (hb.block _ (Array.getElem?_eq_some_iff.1 h.2.2.1).1).trans h.2.2.1, kept_trans h.2.2.2 hb⟩
/-- How the loop is left early. -/
def RiO (w : World) (L : List (St × Value)) (c : Code) (W : World) : Prop := c = .goto 0 ∧ rightA (L.map (·.1)) = false ∧ Below w.heap.size w W
theorem RiO.own (w : World) (L : List (St × Value)) (B : Nat) (hB : w.heap.size ≤ B) : OwnFrom B (RiO w L) := by
  rintro k X Y r ⟨h1, h2, h3⟩ hg hrow
  exact ⟨h1, h2, ownFrom_below (Nat.le_refl _) hB k X Y r h3 hg hrow⟩
/-- How Right is left for its last line: false. -/
def RiJ (w : World) (b : Bool) (a' : Act) (W : World) : Prop :=
  b = false ∧ Below w.heap.size w W ∧ (∃ D, a'.defers = [{ target := .collected D, args := #[] }] ∧ W.heap[D]? = some (.deferred (some [])) ∧ w.heap.size ≤ D) ∧
  ∃ (u0 u1 u2 u3 u4 u5 u6 u7 u8 u9 u10 u11 u12 u13 u14 u15 u16 u17 u18 u19 u20 u21 u22 u23 u24 u25 u26 u27 u28 u29 u30 u31 u32 u33 u34 u35 u36 : Value), a'.tmps = #[u0, u1, u2, u3, u4, u5, u6, u7, u8, u9, u10, u11, u12, u13, u14, u15, u16, u17, u18, u19, u20, u21, u22, u23, u24, u25, u26, u27, u28, u29, u30, u31, u32, u33, u34, u35, u36]
set_option maxHeartbeats 2000000 in
theorem rightS_V {v av : Value} {L : List (St × Value)} (win : Int) (hL : L.length ≤ 1000000) (hp : ∀ s ∈ L.map (·.1), -1000000 ≤ s.place ∧ s.place ≤ 1000000) (w : World) (h : StsL w v L) :
    Calls Tryz.prog 18 #[auV v av win] w fun e w' => e = .returned (.bool (rightA (L.map (·.1)))) ∧ Below w.heap.size w w' := by
  obtain ⟨n, hn⟩ : ∃ n, L.length = n := ⟨_, rfl⟩
  obtain ⟨a, c, rfl⟩ := h.lit hn
  rw [hn] at hL
  obtain ⟨R, hR⟩ : ∃ R, rightA (L.map (·.1)) = R := ⟨_, rfl⟩
  rw [hR]
  refine (callsIn_wide (n := 9)).1 ?_
  refine callsIn_of_wp_marks Tryz.func18 rfl trivial ?_ rfl
  rw [wpIn_wide]
  simp only [Tryz.ntmps18, List.size_toArray, List.length_cons, List.length_nil, Nat.reduceAdd, Nat.reduceSub, Array.replicate_succ, Array.replicate_zero, List.push_toArray, List.append_toArray, List.nil_append, List.cons_append]
  go_wp2
  have hb1 := kept_new w (.cells #[.slice a n c, av, .int .i64 win] 30)
  have hpt := AuBox.new w (.slice a n c) av win
  have c0 := hpt.c0
  refine wp_scope_jumps 0 (fun a' W => RiJ w R a' W) (fun _ _ => 0) rfl ?_ ?_
  · go_wp2_with ((with_reducible refine (allS_any _ _ _ _).mono ?_); rintro e w8 ⟨rfl, rfl⟩)
    have hb2 := kept_new (w.alloc (.cells #[.slice a n c, av, .int .i64 win] 30)) (.cells #[.slice a n c] 27)
    have hI0 : RiI w a n c av win L (w.heap.size + 1) 0 ((w.alloc (.cells #[.slice a n c, av, .int .i64 win] 30)).alloc (.cells #[.slice a n c] 27)) :=
      ⟨restA_zero _, hpt.later hb2, by have := heap_alloc_new (w.alloc (.cells #[.slice a n c, av, .int .i64 win] 30)) (.cells #[.slice a n c] 27); rw [World.size_alloc] at this; exact this, kept_trans hb1 hb2⟩
    have hs8 : ((w.alloc (.cells #[.slice a n c, av, .int .i64 win] 30)).alloc (.cells #[.slice a n c] 27)).heap.size = w.heap.size + 2 := by simp
    clear hpt c0 hb1 hb2
    refine (wpIn_wide (n := 9)).1 ?_
    generalize (w.alloc (.cells #[.slice a n c, av, .int .i64 win] 30)).alloc (.cells #[.slice a n c] 27) = W8 at *
    obtain ⟨V, hV⟩ : ∃ V, w.heap.size + 1 = V := ⟨_, rfl⟩
    rw [hV]
    rw [hV] at hI0
    have hsv := Lib.hid h
    clear h
    refine wpIn_rangeFunc_rowT rfl (by omega) (gf := 53) (lb := #[ptr V]) rfl trivial (enters_of Tryz.func53 (by kernel_rfl) rfl)
      (allS_tells 8 V (by omega) a n c L (by omega) W8) (Below.refl _ _) (fun k hk => stRow_size hk)
      (RiI w a n c av win L V) (RiO w L) (RiI.own w a n c av win L _ _ (by omega)) (RiO.own w _ _ (by omega))
      (fun k W hI => ⟨hI.2.2.1, hn, hsv.out.later hI.2.2.2⟩) (fun _ _ h => trivial)
      hI0
      (fun k a' W => ∃ (s : St) (gv : Value) (p : Nat), L[k]? = some (s, gv) ∧ StBox p s gv W ∧
        a' = { tmps := #[auV (.slice a n c) av win, ptr w.heap.size, .bool false, .int .i64 k, ptr p, ptr w.heap.size, .slice a n c, .func (.func 53) #[] #[ptr V], .int .i64 k, stV s gv, undef, undef, undef, undef, undef, undef, undef, undef, undef, undef, undef, undef, undef, undef, undef, undef, undef, undef, undef, undef, undef, undef, undef, undef, undef, undef, undef], defers := [] })
      ?ax ?assign ?body ?done ?stop
    case ax =>
      rintro k a' ⟨⟩ X Y row ⟨s, gv, p, h1, h2, h3⟩ hg hrow
      exact ⟨s, gv, p, h1, ownFrom_block _ (fun _ : Unit => _) 41 _ () X Y row h2 hg hrow, h3⟩
    case assign =>
      intro l k W K hk hI hK
      rw [stRow_len] at hk
      obtain ⟨⟨s, gv⟩, hx⟩ : ∃ y, L[k]? = some y := ⟨_, List.getElem?_eq_getElem hk⟩
      rw [stRow_at hx]
      obtain ⟨ag, cg, e, -⟩ := (hsv.out.later hI.2.2.2).2 _ (List.mem_of_getElem? hx)
      dsimp only at e
      subst e
      obtain ⟨ng, hng⟩ : ∃ ng, s.gs.length = ng := ⟨_, rfl⟩
      rw [hng] at hx ⊢
      have hb := kept_new W (.cells #[.int .i64 s.step, .int .i64 s.place, .bool s.strict, .slice ag ng cg, .int .i64 s.ahead, .bool s.last] 41)
      have hI2 := Lib.hid (hI.later hb)
      have hbx := Lib.hid (StBox.new W s (.slice ag ng cg))
      replace hb := Lib.hid hb
      clear hI hng
      gi_wp2
      exact hK _ _ (keeps_of_below hb.out) (KeepsT.of_below hb.out) hI2.out ⟨s, _, _, hx, hbx.out, rfl⟩
    case body =>
      rintro l k a' W hk hI ⟨s, gv, p, hx, hb, rfl⟩
      rw [stRow_len] at hk
      obtain ⟨q0, q1, -, -, q4, -⟩ := hb.cells
      have hA : stA (L.map (·.1)) k = s := stA_of (by simp [hx])
      have hrs := restA_step (ss := L.map (·.1)) (k := k) (by simpa using hk)
      rw [hA, hI.1, hR] at hrs
      have hbad : Hid (stOk (L.map (·.1)) k s = false → rightA (L.map (·.1)) = false) := fun h => by rw [hR, hrs, h]; rfl
      have hB := Lib.hid hI.2.2.2
      by_cases h1 : s.step < 0
      · have hf := Lib.hid (hbad.out (by unfold stOk; rw [Bool.and_eq_false_iff]; left; simp; omega))
        clear hrs hbad hI hI0 hx hk hR hA
        gi_wp2
        refine wpIn_goto ?_
        exact ⟨KeepsFrom.refl _ _, rfl, hf.out, hB.out⟩
      · by_cases h2 : (6 : Int) ≤ s.step
        · have hf := Lib.hid (hbad.out (by unfold stOk; rw [Bool.and_eq_false_iff]; left; simp; omega))
          clear hrs hbad hI hI0 hx hk hR hA
          gi_wp2
          refine wpIn_goto ?_
          exact ⟨KeepsFrom.refl _ _, rfl, hf.out, hB.out⟩
        · by_cases h3 : s.ahead < -1
          · have hf := Lib.hid (hbad.out (by unfold stOk; rw [Bool.and_eq_false_iff]; left; simp; omega))
            clear hrs hbad hI hI0 hx hk hR hA
            gi_wp2
            refine wpIn_goto ?_
            exact ⟨KeepsFrom.refl _ _, rfl, hf.out, hB.out⟩
          · by_cases h4 : (k : Int) ≤ s.ahead
            · have hf := Lib.hid (hbad.out (by unfold stOk; rw [Bool.and_eq_false_iff]; left; simp; omega))
              clear hrs hbad hI hI0 hx hk hR hA
              gi_wp2
              refine wpIn_goto ?_
              exact ⟨KeepsFrom.refl _ _, rfl, hf.out, hB.out⟩
            · have c0 := hI.2.1.c0
              have hbe := fun m => behind_any a n c L hn hL s.ahead (by omega) (by omega) hp (W.drewN m) ((hsv.out.later hI.2.2.2).later (below_drewN _ _))
              obtain ⟨E, hE⟩ : ∃ E, behindP (L.map (·.1)) s.ahead = E := ⟨_, rfl⟩
              rw [hE] at hbe
              replace hbe := Lib.hid hbe
              have hok : stOk (L.map (·.1)) k s = decide (s.place = E) := by
                unfold stOk
                rw [hE, decide_eq_true (by omega), Bool.true_and]
              have hnx : Hid (∀ m, s.place = E → RiI w a n c av win L V (k + 1) (W.drewN m)) := fun m h => ⟨by rw [hR, hrs, hok, decide_eq_true h, Bool.true_and], (hI.later (below_drewN _ m)).2⟩
              have hbd : Hid (∀ m, ¬ s.place = E → rightA (L.map (·.1)) = false ∧ Below w.heap.size w (W.drewN m)) := fun m h => ⟨hbad.out (by rw [hok, decide_eq_false h]), (hI.later (below_drewN _ m)).2.2.2⟩
              have hkf : Hid (∀ m, KeepsFrom W8.heap.size W (W.drewN m)) := fun m => keeps_of_below (below_drewN _ m)
              have hkt : Hid (∀ m, KeepsT 41 W (W.drewN m)) := fun m => KeepsT.of_below (below_drewN _ m)
              clear hrs hbad hI hI0 hx hk hR hA hok hE
              gi_wp2_with fail
              refine region_quiet_round rfl (by simp) (by kernel_rfl) (by kernel_rfl) ?_
              repeat (
                refine wpQuietIn_step (by first | (go_simp; done) | (simp only [Oper.askedIn, Oper.about]; done) | (intros; trivial) | (go_simp; intros; trivial)) (fun K hK => ?_)
                go_simp
                first
                  | (refine hK _ ?_; clear hK K)
                  | (apply Exists.intro; refine ⟨fun _ => ?_, hK _ ?_⟩; (exact CallsIn.quiet_of_same ((callsIn_wide (n := 6)).2 (hbe.out _))); clear hK K))
              refine wpQuietIn_nil ?_
              intro _ hw'
              obtain ⟨nq, hw''⟩ := hw'
              subst hw''
              by_cases hpe : s.place = E
              · have hne : (s.place != E) = false := by simp [hpe]
                have hn2 := Lib.hid (hnx.out nq hpe)
                replace hpe := Lib.hid hpe
                clear hnx hbd q0 q1 q4 c0
                gi_wp2
                exact ⟨hkf.out _, hkt.out _, hn2.out⟩
              · have hne : (s.place != E) = true := by simp [hpe]
                have hn2 := Lib.hid (hbd.out nq hpe)
                replace hpe := Lib.hid hpe
                clear hnx hbd q0 q1 q4 c0
                gi_wp2
                refine wpIn_goto ?_
                exact ⟨hkf.out _, rfl, hn2.out⟩
    case done =>
      rintro D W hD hI hK
      rw [stRow_len] at hI
      have hE : R = true := by rw [← hR, ← hI.1]; exact restA_end (by simp)
      have hDw : w.heap.size ≤ D := by omega
      have hB := hI.2.2.2
      clear hI hI0 hR hsv
      subst hE
      go_wp2
      rw [jump_ret]
      refine ⟨by simp, .inl ⟨_, _, rfl, run_takeDeferred hK, ?_⟩⟩
      exact ⟨_, results_tmp rfl _ _ _, rfl, hB.trans (belowK_b (w := w) (Nat.le_refl _) W D _ (.deferred none) hDw hK rfl rfl)⟩
    case stop =>
      rintro D c W hD ⟨rfl, hf, hB⟩ hK
      refine wpIn_goto ?_
      exact ⟨rfl, by rw [← hR, hf], hB, ⟨D, rfl, hK, by omega⟩, _, _, _, _, _, _, _, _, _, _, _, _, _, _, _, _, _, _, _, _, _, _, _, _, _, _, _, _, _, _, _, _, _, _, _, _, _, rfl⟩
  · rintro ⟨t, d⟩ w2 ⟨hb, hB, hd, u0, u1, u2, u3, u4, u5, u6, u7, u8, u9, u10, u11, u12, u13, u14, u15, u16, u17, u18, u19, u20, u21, u22, u23, u24, u25, u26, u27, u28, u29, u30, u31, u32, u33, u34, u35, u36, he⟩
    dsimp only at he hd
    subst he
    go_wp2
    rw [jump_ret]
    obtain ⟨D, rfl, hK, hD⟩ := hd
    refine ⟨by simp, .inl ⟨_, _, rfl, run_takeDeferred hK, ?_⟩⟩
    exact ⟨_, results_tmp rfl _ _ _, (by show Ending.returned (Value.bool false) = _; rw [hb]), hB.trans (belowK_b (w := w) (Nat.le_refl _) w2 D _ (.deferred none) hD hK rfl rfl)⟩
end Go.Proofs.YtccmnngeibpcmaaGreat.Tree
/- nfa.Row. -/
namespace Go.Proofs.YtccmnngeibpcmaaGreat.Tree
open Go.ChangeShapes Go.WideShapes Go.ChangeAt Go.RowKit
set_option linter.unusedVariables false
set_option linter.unusedSimpArgs false
set_option maxRecDepth 100000
attribute [local go_sem] Oper.semAt_some
/-- The row of a state; nothing, where there is none. -/
def rowA (ss : List St) (x : Int) : List Int := if 0 ≤ x ∧ x < ss.length ∧ rightA ss = true then wayL ss x.toNat else []
set_option maxHeartbeats 1000000 in
theorem rowA_V {v av : Value} {L : List (St × Value)} (win x : Int) (hL : L.length ≤ 1000000) (hp : ∀ s ∈ L.map (·.1), -1000000 ≤ s.place ∧ s.place ≤ 1000000) (w : World) (h : StsL w v L) (hav : ∃ a c m, av = .slice a m c) :
    Calls Tryz.prog 13 #[auV v av win, .int .i64 x] w fun e w' => ∃ u, e = .returned u ∧ w'.ownsRow w.heap.size 3 1 u (rowA (L.map (·.1)) x).length (ints (rowA (L.map (·.1)) x)) ∧ Below w.heap.size w w' := by
  obtain ⟨n, hn⟩ : ∃ n, L.length = n := ⟨_, rfl⟩
  obtain ⟨a, c, rfl⟩ := h.lit hn
  obtain ⟨aa, ca, ma, rfl⟩ := hav
  have hb := kept_new w (.cells #[.slice a n c, .slice aa ma ca, .int .i64 win] 30)
  have hpt := AuBox.new w (.slice a n c) (.slice aa ma ca) win
  have c0 := hpt.c0
  have c1 := hpt.c1
  have c2 := hpt.c2
  have hRi := Lib.hid (rightS_V (av := .slice aa ma ca) win hL hp _ (h.later hb))
  obtain ⟨R, hR⟩ : ∃ R, rightA (L.map (·.1)) = R := ⟨_, rfl⟩
  rw [hR] at hRi
  rw [hn] at hL
  obtain ⟨RES, hRES⟩ : ∃ r, rowA (L.map (·.1)) x = r := ⟨_, rfl⟩
  rw [hRES]
  have hrs : RES = if 0 ≤ x ∧ x < n ∧ R = true then wayL (L.map (·.1)) x.toNat else [] := by
    rw [← hRES]; unfold rowA; rw [hR, List.length_map, hn]
  go_enter Tryz.func13, Tryz.ntmps13
  go_wp2
  refine wp_scope_jumps 0 (fun a' W => RES = [] ∧ Below w.heap.size w W ∧ a'.defers = [] ∧ ∃ (u0 u1 u2 u3 u4 u5 u6 u7 u8 u9 u10 u11 u12 u13 u14 u15 u16 u17 u18 u19 u20 u21 u22 : Value), a'.tmps = #[u0, u1, u2, u3, u4, u5, u6, u7, u8, u9, u10, u11, u12, u13, u14, u15, u16, u17, u18, u19, u20, u21, u22]) (fun _ _ => 0) rfl ?_ ?_
  · by_cases h1 : x < 0
    · have hr : RES = [] := by rw [hrs, if_neg (by omega)]
      replace hr := Lib.hid hr
      replace hb := Lib.hid hb
      clear hrs hRES hR h hpt hn hp hRi
      go_wp2_with fail
      refine wp_goto ?_
      exact ⟨rfl, hr.out, hb.out, rfl, _, _, _, _, _, _, _, _, _, _, _, _, _, _, _, _, _, _, _, _, _, _, _, rfl⟩
    · by_cases h2 : (n : Int) ≤ x
      · have hr : RES = [] := by rw [hrs, if_neg (by omega)]
        replace hr := Lib.hid hr
        replace hb := Lib.hid hb
        clear hrs hRES hR h hpt hn hp hRi
        go_wp2_with fail
        refine wp_goto ?_
        exact ⟨rfl, hr.out, hb.out, rfl, _, _, _, _, _, _, _, _, _, _, _, _, _, _, _, _, _, _, _, _, _, _, _, rfl⟩
      · cases R with
        | false =>
          have hr : RES = [] := by rw [hrs, if_neg (by simp)]
          replace hr := Lib.hid hr
          replace hb := Lib.hid hb
          clear hrs hRES hR h hpt hn hp
          go_wp2_with ((with_reducible refine hRi.out.mono ?_); rintro e w2 ⟨rfl, hb2⟩)
          refine wp_goto ?_
          exact ⟨rfl, hr.out, kept_trans hb.out hb2, rfl, _, _, _, _, _, _, _, _, _, _, _, _, _, _, _, _, _, _, _, _, _, _, _, rfl⟩
        | true =>
          obtain ⟨i, rfl⟩ : ∃ i : Nat, x = i := ⟨x.toNat, by omega⟩
          have hr : RES = wayL (L.map (·.1)) i := by rw [hrs, if_pos ⟨by omega, by omega, rfl⟩, Int.toNat_natCast]
          have hW := Lib.hid (fun X (hX : Below w.heap.size w X) => way_any a n c L hn hL hR i (by omega) X (h.later hX))
          obtain ⟨q, hq⟩ : ∃ q, wayL (L.map (·.1)) i = q := ⟨_, rfl⟩
          rw [hq] at hW hr
          subst hr
          replace hpt := Lib.hid hpt
          replace hb := Lib.hid hb
          clear hrs hRES hR h hn hp
          replace hq := Lib.hid hq
          go_wp2_with (first
            | ((with_reducible refine hRi.out.mono ?_); rintro e w2 ⟨rfl, hb2⟩; have hpt2 := hpt.out.later hb2; have d0 := hpt2.c0; have hB2 := kept_trans hb.out hb2; have Q1 := Lib.hid (hW.out _ hB2))
            | ((with_reducible refine Q1.out.mono ?_); rintro e w3 ⟨u, rfl, ho, hb3⟩))
          rw [jump_ret]
          go_ret
          refine ⟨u, rfl, ?_, kept_trans hB2 hb3⟩
          exact row_base ho hB2.size
  · rintro ⟨t, d⟩ w2 ⟨hr, hB, hd, u0, u1, u2, u3, u4, u5, u6, u7, u8, u9, u10, u11, u12, u13, u14, u15, u16, u17, u18, u19, u20, u21, u22, he⟩
    dsimp only at he hd
    subst he hd
    clear hrs hRES c0 c1 c2
    subst hr
    go_wp2
    rw [jump_ret]
    go_ret
    refine ⟨.slice none 0 0, rfl, ?_, hB⟩
    exact World.ownsRow_nil _ _ _ _
end Go.Proofs.YtccmnngeibpcmaaGreat.Tree
/- nfa.those: the numbers of the states that are asked for (Rows$1: those that are last). -/
namespace Go.Proofs.YtccmnngeibpcmaaGreat.Tree
open Go.ChangeShapes Go.WideShapes Go.ChangeAt Go.RowKit
set_option linter.unusedVariables false
set_option linter.unusedSimpArgs false
set_option maxRecDepth 100000
attribute [local go_sem] Oper.semAt_some
/-- The numbers below j of the states that are asked for. -/
def idxF (q : St → Bool) (ss : List St) (j : Nat) : List Nat := (List.range j).filter fun i => q (stA ss i)
def thoseL (q : St → Bool) (ss : List St) : List Nat := idxF q ss ss.length
theorem idxF_succ (q : St → Bool) (ss : List St) (j : Nat) : idxF q ss (j + 1) = idxF q ss j ++ if q (stA ss j) then [j] else [] := by
  unfold idxF
  rw [List.range_succ, List.filter_append]
  congr 1
  cases h : q (stA ss j) <;> simp [h]
theorem idxF_pre (q : St → Bool) (ss : List St) (j k : Nat) : ∃ r, idxF q ss (j + k) = idxF q ss j ++ r := by
  induction k with
  | zero => exact ⟨[], by simp⟩
  | succ k ih => obtain ⟨r, h⟩ := ih; rw [← Nat.add_assoc, idxF_succ, h]; exact ⟨_, List.append_assoc _ _ _⟩
theorem those_at {q : St → Bool} {ss : List St} {j : Nat} (hj : j < ss.length) (hq : q (stA ss j) = true) : (thoseL q ss)[(idxF q ss j).length]? = some j := by
  obtain ⟨r, h⟩ := idxF_pre q ss (j + 1) (ss.length - (j + 1))
  rw [show j + 1 + (ss.length - (j + 1)) = ss.length by omega, idxF_succ, if_pos hq] at h
  unfold thoseL
  rw [h, List.append_assoc, List.getElem?_append_right (Nat.le_refl _)]
  simp
theorem idxF_lt {q : St → Bool} {ss : List St} {j : Nat} (hj : j < ss.length) (hq : q (stA ss j) = true) : (idxF q ss j).length < (thoseL q ss).length := (List.getElem?_eq_some_iff.1 (those_at hj hq)).1
def thRow (l : List Nat) : List (Array Value) := l.map fun i : Nat => #[.int .i64 (i : Int)]
theorem thRow_len (l : List Nat) : (thRow l).length = l.length := by simp [thRow]
theorem thRow_at {l : List Nat} {k j : Nat} (h : l[k]? = some j) : (thRow l)[k]?.getD #[] = #[.int .i64 (j : Int)] := by simp [thRow, h]
theorem thRow_size {l : List Nat} {k : Nat} (h : k < (thRow l).length) : ((thRow l)[k]?.getD #[]).size = 1 := by
  simp [thRow] at h ⊢
  simp [h]
theorem those_any (a : Option Addr) (n c g : Nat) (lb : Array Value) (w : World) :
    Calls Tryz.prog 28 #[.slice a n c, .func (.func g) #[] lb] w fun e w' => e = .returned (.func (.func 52) #[] #[ptr w.heap.size, ptr (w.heap.size + 1)]) ∧ w' = (w.alloc (.cells #[.slice a n c] 27)).alloc (.cells #[.func (.func g) #[] lb] 60) := by
  go_enter Tryz.func28, Tryz.ntmps28
  go_wp2
  go_ret
  refine ⟨?_, rfl⟩
  simp
theorem ask29 (s : St) (gv : Value) (hgv : ∃ a c m, gv = .slice a m c) (w : World) : Calls Tryz.prog 29 #[stV s gv] w fun e w' => e = .returned (.bool s.last) ∧ Below w.heap.size w w' := by
  obtain ⟨a, c, m, rfl⟩ := hgv
  have hb := kept_new w (.cells #[.int .i64 s.step, .int .i64 s.place, .bool s.strict, .slice a m c, .int .i64 s.ahead, .bool s.last] 41)
  go_enter Tryz.func29, Tryz.ntmps29
  go_wp2
  go_ret
  exact ⟨rfl, hb⟩
/-- The slice of states and the question, each in its box. -/
def ThIn (B : Nat) (a : Option Addr) (n c : Nat) (L : List (St × Value)) (g : Nat) (lb : Array Value) (Kx : World → Prop) (W : World) : Prop :=
  SsIn B a n c L W ∧ W.heap[B + 1]? = some (.cells #[.func (.func g) #[] lb] 60 (0, 0)) ∧ Kx W
set_option maxHeartbeats 1000000 in
theorem those29 (N B : Nat) (ty : TypeId) (hN : 1 ≤ N) (a : Option Addr) (n c : Nat) (L : List (St × Value)) (hn : n ≤ 140737488351232) (w : World) :
    TellsRowT True Fence.wide N Tryz.prog 52 #[ptr B, ptr (B + 1)] (ThIn B a n c L 29 #[] (fun _ => True)) ty (thRow (thoseL (fun s => s.last) (L.map (·.1)))) w := by
  intro l J Jx W hW hK hDr hY h0
  clear hW
  rw [thRow_len] at *
  have hlen : Hid (L.length = n) := (hK _ _ h0).1.2.1
  have k0 : W.cell? ⟨B, 0, none⟩ = some (.slice a n c) := (hK _ _ h0).1.c0
  replace hY := Lib.hid hY
  replace hDr := Lib.hid hDr
  replace hK := Lib.hid hK
  refine callsIn_of_wp Tryz.func52 rfl trivial ?_ rfl
  simp only [Tryz.ntmps52, List.size_toArray, List.length_cons, List.length_nil, Nat.reduceAdd, Nat.reduceSub, Array.replicate_succ, Array.replicate_zero, List.push_toArray, List.append_toArray, List.nil_append, List.cons_append]
  gi_wp2_with fail
  clear k0
  gi_loopw [8] (fun u wr => ∃ j : Nat, j ≤ n ∧ u = .int .i64 j ∧ J (idxF (fun s => s.last) (L.map (·.1)) j).length wr) (fun u _ => n - (intOf u).toNat)
  case atStart => exact ⟨0, Nat.zero_le _, rfl, h0⟩
  case round =>
    clear h0
    obtain ⟨j, hj, rfl, hJs⟩ := hrel
    by_cases hlt : j < n
    · have hlti : (j : Int) < n := by omega
      obtain ⟨⟨s, v⟩, hx⟩ : ∃ y, L[j]? = some y := ⟨_, List.getElem?_eq_getElem (by rw [hlen.out]; exact hlt)⟩
      obtain ⟨b, o, rfl, z0, z1, z2, z3, z4, z5⟩ := (hK.out _ _ hJs).1.2.2.at hx
      obtain ⟨a2, c2, hv, -⟩ := (hK.out _ _ hJs).1.2.2.2 _ (List.mem_of_getElem? hx)
      dsimp only at hv
      subst hv
      have hA : stA (L.map (·.1)) j = s := stA_of (by simp [hx])
      have kf := (hK.out _ _ hJs).2.1
      have hsl : j < (L.map (·.1)).length := by simp [hlen.out]; exact hlt
      generalize hm : s.gs.length = m at *
      have hb := kept_new wr (.cells #[.int .i64 s.step, .int .i64 s.place, .bool s.strict, .slice a2 m c2, .int .i64 s.ahead, .bool s.last] 41)
      have hJ1 := hDr.out _ _ _ hJs hb
      have kf1 := (hK.out _ _ hJ1).2.1
      have hfc : (wr.alloc (.cells #[.int .i64 s.step, .int .i64 s.place, .bool s.strict, .slice a2 m c2, .int .i64 s.ahead, .bool s.last] 41)).cell? ⟨B + 1, 0, none⟩ = some (.func (.func 29) #[] #[]) := by simp [World.cell?, kf1]
      have hsp := StBox.new wr s (.slice a2 m c2)
      obtain ⟨q0, q1, q2, q3, q4, q5⟩ := hsp.cells
      clear hsp
      have hask := Lib.hid (ask29 s (.slice a2 m c2) ⟨_, _, _, rfl⟩ (wr.alloc (.cells #[.int .i64 s.step, .int .i64 s.place, .bool s.strict, .slice a2 m c2, .int .i64 s.ahead, .bool s.last] 41)))
      have hnx : Hid (idxF (fun s => s.last) (L.map (·.1)) (j + 1) = idxF (fun s => s.last) (L.map (·.1)) j ++ if s.last then [j] else []) := by rw [idxF_succ, hA]; exact Lib.hid rfl
      have hY2 : Hid (s.last = true → ∀ W1, J (idxF (fun s => s.last) (L.map (·.1)) j).length W1 → YieldAt Fence.wide (N - 1) Tryz.prog l #[.int .i64 (j : Int)] W1 fun e W' =>
          (e = .returned (.bool true) ∧ KeepsT ty W1 W' ∧ J ((idxF (fun s => s.last) (L.map (·.1)) j).length + 1) W') ∨ (True ∧ e = .returned (.bool false) ∧ Jx ((idxF (fun s => s.last) (L.map (·.1)) j).length + 1) W')) := Lib.hid fun hl W1 hJ => by
        have hq : (fun s : St => s.last) (stA (L.map (·.1)) j) = true := by rw [hA]; exact hl
        have Y := hY.out _ (idxF_lt hsl hq) W1 hJ
        rw [thRow_at (those_at hsl hq)] at Y
        exact Y
      replace hA := Lib.hid hA
      replace hJ1 := Lib.hid hJ1
      replace hb := Lib.hid hb
      clear hJs kf kf1 hsl hm hx hY
      gi_wp2_with fail
      refine ⟨trivial, ((callsIn_wide (n := N - 1)).2 hask.out).mono ?_⟩
      rintro e w4 ⟨rfl, hB4⟩
      have hJ4 := Lib.hid (hDr.out _ _ _ hJ1.out hB4)
      replace hB4 := Lib.hid hB4
      clear hask hDr hK hA hJ1 hb q0 q1 q2 q3 q4 q5 hfc z0 z1 z2 z3 z4 z5
      replace hB4 := True.intro
      clear hB4
      generalize s.last = lst at *
      cases lst with
      | true =>
        have Y0 := hY2.out rfl w4 hJ4.out
        have hn2 : Hid ((idxF (fun s => s.last) (L.map (·.1)) (j + 1)).length = (idxF (fun s => s.last) (L.map (·.1)) j).length + 1) := by rw [hnx.out]; exact Lib.hid (by simp)
        clear hY2 hnx hJ4
        obtain ⟨fn, tmps, assign, body, hy, hR⟩ := Y0
        gi_wp2
        refine hR.mono ?_
        rintro e W3 (⟨rfl, hkt, hJ3⟩ | ⟨-, rfl, hJx3⟩)
        · gi_wp2
          go_roundw
          case rel => exact ⟨j + 1, hlt, by go_num, by rw [hn2.out]; exact hJ3⟩
          case measure => simp [intOf]; omega
        · gi_wp2
          refine bodyPost_ret (results_none rfl _ _ _) rfl ?_
          exact ⟨⟨_, rfl⟩, .inr ⟨_, hJx3⟩⟩
      | false =>
        have hn2 : Hid ((idxF (fun s => s.last) (L.map (·.1)) (j + 1)).length = (idxF (fun s => s.last) (L.map (·.1)) j).length) := by rw [hnx.out]; exact Lib.hid (by simp)
        clear hY2 hnx
        gi_wp2
        refine ⟨(fun _ h => by cases h), ?_⟩
        gi_wp2
        go_roundw
        case rel => exact ⟨j + 1, hlt, by go_num, by rw [hn2.out]; exact hJ4.out⟩
        case measure => simp [intOf]; omega
    · obtain rfl : j = n := by omega
      have hJe := hJs
      clear hDr hY hK
      gi_wp2
      go_end0
      refine ⟨⟨_, rfl⟩, .inl ?_⟩
      unfold thoseL
      rw [List.length_map, hlen.out]
      exact hJe
end Go.Proofs.YtccmnngeibpcmaaGreat.Tree
/- nfa.those, asked by Next$1: those that are behind a state. -/
namespace Go.Proofs.YtccmnngeibpcmaaGreat.Tree
open Go.ChangeShapes Go.WideShapes Go.ChangeAt Go.RowKit
set_option linter.unusedVariables false
set_option linter.unusedSimpArgs false
set_option maxRecDepth 100000
attribute [local go_sem] Oper.semAt_some
theorem ask35 (B3 : Nat) (x : Int) (s : St) (gv : Value) (hgv : ∃ a c m, gv = .slice a m c) (w : World) (h : w.heap[B3]? = some (.cells #[.int .i64 x] 3 (0, 0))) : Calls Tryz.prog 35 #[stV s gv, ptr B3] w fun e w' => e = .returned (.bool (s.ahead == x)) ∧ Below w.heap.size w w' := by
  obtain ⟨a, c, m, rfl⟩ := hgv
  have hb := kept_new w (.cells #[.int .i64 s.step, .int .i64 s.place, .bool s.strict, .slice a m c, .int .i64 s.ahead, .bool s.last] 41)
  have hx : (w.alloc (.cells #[.int .i64 s.step, .int .i64 s.place, .bool s.strict, .slice a m c, .int .i64 s.ahead, .bool s.last] 41)).cell? ⟨B3, 0, none⟩ = some (.int .i64 x) := by
    have := (hb.block _ (Array.getElem?_eq_some_iff.1 h).1).trans h
    simp [World.cell?, this]
  go_enter Tryz.func35, Tryz.ntmps35
  go_wp2
  go_ret
  exact ⟨rfl, hb⟩
set_option maxHeartbeats 1000000 in
theorem those35 (N B : Nat) (ty : TypeId) (B3 : Nat) (x : Int) (hN : 1 ≤ N) (a : Option Addr) (n c : Nat) (L : List (St × Value)) (hn : n ≤ 140737488351232) (w : World) :
    TellsRowT True Fence.wide N Tryz.prog 52 #[ptr B, ptr (B + 1)] (ThIn B a n c L 35 #[ptr B3] (fun W => W.heap[B3]? = some (.cells #[.int .i64 x] 3 (0, 0)))) ty (thRow (thoseL (fun s => s.ahead == x) (L.map (·.1)))) w := by
  intro l J Jx W hW hK hDr hY h0
  clear hW
  rw [thRow_len] at *
  have hlen : Hid (L.length = n) := (hK _ _ h0).1.2.1
  have k0 : W.cell? ⟨B, 0, none⟩ = some (.slice a n c) := (hK _ _ h0).1.c0
  replace hY := Lib.hid hY
  replace hDr := Lib.hid hDr
  replace hK := Lib.hid hK
  refine callsIn_of_wp Tryz.func52 rfl trivial ?_ rfl
  simp only [Tryz.ntmps52, List.size_toArray, List.length_cons, List.length_nil, Nat.reduceAdd, Nat.reduceSub, Array.replicate_succ, Array.replicate_zero, List.push_toArray, List.append_toArray, List.nil_append, List.cons_append]
  gi_wp2_with fail
  clear k0
  gi_loopw [8] (fun u wr => ∃ j : Nat, j ≤ n ∧ u = .int .i64 j ∧ J (idxF (fun s => s.ahead == x) (L.map (·.1)) j).length wr) (fun u _ => n - (intOf u).toNat)
  case atStart => exact ⟨0, Nat.zero_le _, rfl, h0⟩
  case round =>
    clear h0
    obtain ⟨j, hj, rfl, hJs⟩ := hrel
    by_cases hlt : j < n
    · have hlti : (j : Int) < n := by omega
      obtain ⟨⟨s, v⟩, hx⟩ : ∃ y, L[j]? = some y := ⟨_, List.getElem?_eq_getElem (by rw [hlen.out]; exact hlt)⟩
      obtain ⟨b, o, rfl, z0, z1, z2, z3, z4, z5⟩ := (hK.out _ _ hJs).1.2.2.at hx
      obtain ⟨a2, c2, hv, -⟩ := (hK.out _ _ hJs).1.2.2.2 _ (List.mem_of_getElem? hx)
      dsimp only at hv
      subst hv
      have hA : stA (L.map (·.1)) j = s := stA_of (by simp [hx])
      have kf := (hK.out _ _ hJs).2.1
      have hsl : j < (L.map (·.1)).length := by simp [hlen.out]; exact hlt
      generalize hm : s.gs.length = m at *
      have hb := kept_new wr (.cells #[.int .i64 s.step, .int .i64 s.place, .bool s.strict, .slice a2 m c2, .int .i64 s.ahead, .bool s.last] 41)
      have hJ1 := hDr.out _ _ _ hJs hb
      have kf1 := (hK.out _ _ hJ1).2.1
      have hfc : (wr.alloc (.cells #[.int .i64 s.step, .int .i64 s.place, .bool s.strict, .slice a2 m c2, .int .i64 s.ahead, .bool s.last] 41)).cell? ⟨B + 1, 0, none⟩ = some (.func (.func 35) #[] #[ptr B3]) := by simp [World.cell?, kf1]
      have hsp := StBox.new wr s (.slice a2 m c2)
      obtain ⟨q0, q1, q2, q3, q4, q5⟩ := hsp.cells
      clear hsp
      have hask := Lib.hid (ask35 B3 x s (.slice a2 m c2) ⟨_, _, _, rfl⟩ (wr.alloc (.cells #[.int .i64 s.step, .int .i64 s.place, .bool s.strict, .slice a2 m c2, .int .i64 s.ahead, .bool s.last] 41)) (hK.out _ _ hJ1).2.2)
      have hnx : Hid (idxF (fun s => s.ahead == x) (L.map (·.1)) (j + 1) = idxF (fun s => s.ahead == x) (L.map (·.1)) j ++ if s.ahead == x then [j] else []) := by rw [idxF_succ, hA]; exact Lib.hid rfl
      have hY2 : Hid ((s.ahead == x) = true → ∀ W1, J (idxF (fun s => s.ahead == x) (L.map (·.1)) j).length W1 → YieldAt Fence.wide (N - 1) Tryz.prog l #[.int .i64 (j : Int)] W1 fun e W' =>
          (e = .returned (.bool true) ∧ KeepsT ty W1 W' ∧ J ((idxF (fun s => s.ahead == x) (L.map (·.1)) j).length + 1) W') ∨ (True ∧ e = .returned (.bool false) ∧ Jx ((idxF (fun s => s.ahead == x) (L.map (·.1)) j).length + 1) W')) := Lib.hid fun hl W1 hJ => by
        have hq : (fun s : St => s.ahead == x) (stA (L.map (·.1)) j) = true := by rw [hA]; exact hl
        have Y := hY.out _ (idxF_lt hsl hq) W1 hJ
        rw [thRow_at (those_at hsl hq)] at Y
        exact Y
      replace hA := Lib.hid hA
      replace hJ1 := Lib.hid hJ1
      replace hb := Lib.hid hb
      clear hJs kf kf1 hsl hm hx hY
      gi_wp2_with fail
      refine ⟨trivial, ((callsIn_wide (n := N - 1)).2 hask.out).mono ?_⟩
      rintro e w4 ⟨rfl, hB4⟩
      have hJ4 := Lib.hid (hDr.out _ _ _ hJ1.out hB4)
      replace hB4 := Lib.hid hB4
      clear hask hDr hK hA hJ1 hb q0 q1 q2 q3 q4 q5 hfc z0 z1 z2 z3 z4 z5
      replace hB4 := True.intro
      clear hB4
      generalize (s.ahead == x) = lst at *
      cases lst with
      | true =>
        have Y0 := hY2.out rfl w4 hJ4.out
        have hn2 : Hid ((idxF (fun s => s.ahead == x) (L.map (·.1)) (j + 1)).length = (idxF (fun s => s.ahead == x) (L.map (·.1)) j).length + 1) := by rw [hnx.out]; exact Lib.hid (by simp)
        clear hY2 hnx hJ4
        obtain ⟨fn, tmps, assign, body, hy, hR⟩ := Y0
        gi_wp2
        refine hR.mono ?_
        rintro e W3 (⟨rfl, hkt, hJ3⟩ | ⟨-, rfl, hJx3⟩)
        · gi_wp2
          go_roundw
          case rel => exact ⟨j + 1, hlt, by go_num, by rw [hn2.out]; exact hJ3⟩
          case measure => simp [intOf]; omega
        · gi_wp2
          refine bodyPost_ret (results_none rfl _ _ _) rfl ?_
          exact ⟨⟨_, rfl⟩, .inr ⟨_, hJx3⟩⟩
      | false =>
        have hn2 : Hid ((idxF (fun s => s.ahead == x) (L.map (·.1)) (j + 1)).length = (idxF (fun s => s.ahead == x) (L.map (·.1)) j).length) := by rw [hnx.out]; exact Lib.hid (by simp)
        clear hY2 hnx
        gi_wp2
        refine ⟨(fun _ h => by cases h), ?_⟩
        gi_wp2
        go_roundw
        case rel => exact ⟨j + 1, hlt, by go_num, by rw [hn2.out]; exact hJ4.out⟩
        case measure => simp [intOf]; omega
    · obtain rfl : j = n := by omega
      have hJe := hJs
      clear hDr hY hK
      gi_wp2
      go_end0
      refine ⟨⟨_, rfl⟩, .inl ?_⟩
      unfold thoseL
      rw [List.length_map, hlen.out]
      exact hJe
end Go.Proofs.YtccmnngeibpcmaaGreat.Tree
/- nfa.Rows. -/
namespace Go.Proofs.YtccmnngeibpcmaaGreat.Tree
open Go.ChangeShapes Go.WideShapes Go.ChangeAt Go.RowKit
set_option linter.unusedVariables false
set_option linter.unusedSimpArgs false
set_option maxRecDepth 100000
attribute [local go_sem] Oper.semAt_some
theorem keepsT_app {W w1 : World} {base p k : Nat} {v v' : Value} {us : List Value} {tmp : Obj} (t : TypeId) (ht : t ≠ 28) (ht2 : t ≠ 34) (ho : W.ownsRow base 28 1 v k us) (hgrow : (W.alloc tmp).grownBy w1 v.ownBlock) (hv1 : Boxed w1 p 34 v) : KeepsT t W (w1.setCell ⟨p, 0, none⟩ v') :=
  ((KeepsT.of_below (kept_new W tmp)).trans (KeepsT.grown hgrow (own_is (ho.alloc tmp) t ht))).trans (KeepsT.grown (grownBy_setCell_any w1 p 0 v') (box_is hv1 t ht2))
/-- The rows of an automaton as nfa.Rows tells them. -/
def rowsA (ss : List St) : List (List Int) := (thoseL (fun s => s.last) ss).map fun j => if rightA ss = true then wayL ss j else []
theorem rowsA_at {ss : List St} {k j : Nat} (h : (thoseL (fun s => s.last) ss)[k]? = some j) : (rowsA ss)[k]? = some (if rightA ss = true then wayL ss j else []) := by simp [rowsA, h]
theorem rowsA_len (ss : List St) : (rowsA ss).length = (thoseL (fun s => s.last) ss).length := by simp [rowsA]
theorem those_lt {q : St → Bool} {ss : List St} {j : Nat} (h : j ∈ thoseL q ss) : j < ss.length := by
  unfold thoseL idxF at h
  simp at h
  exact h.1
theorem those_few (q : St → Bool) (ss : List St) : (thoseL q ss).length ≤ ss.length := by
  unfold thoseL idxF
  exact Nat.le_trans (List.length_filter_le _ _) (by simp)
def NrI (w : World) (v av : Value) (win : Int) (a : Option Addr) (n c : Nat) (L : List (St × Value)) (P B : Nat) (k : Nat) (W : World) : Prop :=
  AsI (w.alloc (.cells #[v, av, .int .i64 win] 30)) w.heap.size (rowsA (L.map (·.1))) k W ∧ W.heap[P]? = some (.cells #[.bool (rightA (L.map (·.1)))] 4 (0, 0)) ∧ W.heap[B]? = some (.cells #[.slice a n c] 27 (0, 0)) ∧ W.heap[B + 1]? = some (.cells #[.func (.func 29) #[] #[]] 60 (0, 0))
theorem NrI.own (w : World) (v av : Value) (win : Int) (a : Option Addr) (n c : Nat) (L : List (St × Value)) (P B : Nat) (D : Nat) (hD : w.heap.size + 1 ≤ D) : OwnFrom D (NrI w v av win a n c L P B) := by
  rintro k X Y r ⟨h0, h1, h2, h3⟩ hg hrow
  have hrow' : ∀ r', r = some r' → ∃ o : Obj, X.heap[r']? = some o ∧ o.isCells = false := fun r' e => (hrow r' e).2
  exact ⟨AsI.own _ _ _ D (by simpa using hD) k X Y r h0 hg hrow, ownFrom_block _ (fun _ : Unit => _) 4 D () X Y r h1 hg hrow, ownFrom_block _ (fun _ : Unit => _) 27 D () X Y r h2 hg hrow, ownFrom_block _ (fun _ : Unit => _) 60 D () X Y r h3 hg hrow⟩
theorem NrI.later {w : World} {v av : Value} {win : Int} {a : Option Addr} {n c : Nat} {L : List (St × Value)} {P B k : Nat} {X Y : World} (h : NrI w v av win a n c L P B k X) (hb : Below X.heap.size X Y) : NrI w v av win a n c L P B k Y :=
  NrI.own w v av win a n c L P B (w.heap.size + 1) (Nat.le_refl _) k X Y none h (grown_of_below hb) (fun r e => by cases e)
def NrStep (w W : World) (av : Value) (win : Int) (a : Option Addr) (n c : Nat) (L : List (St × Value)) (P B k : Nat) (v : Value) (us : List Value) (u : Value) (D : Nat) : Prop :=
  ∀ (w1 : World) (v' : Value) (tmp : Obj), w1.ownsRow (w.heap.size + 1) 28 1 v' (k + 1) (us ++ [u]) → (W.alloc tmp).grownBy w1 v.ownBlock →
    KeepsFrom D W (w1.setCell ⟨w.heap.size + 1, 0, none⟩ v') ∧ KeepsT 41 W (w1.setCell ⟨w.heap.size + 1, 0, none⟩ v') ∧ NrI w (.slice a n c) av win a n c L P B (k + 1) (w1.setCell ⟨w.heap.size + 1, 0, none⟩ v')
theorem NrI.next {w W : World} {av : Value} {win : Int} {a : Option Addr} {n c : Nat} {L : List (St × Value)} {P B k : Nat} {v : Value} {us : List Value} {u : Value} {r : List Int} (hI : NrI w (.slice a n c) av win a n c L P B k W)
    (hv : Boxed W (w.heap.size + 1) 34 v) (ho : W.ownsRow (w.heap.size + 1) 28 1 v k us) (he : EachOwn W w.heap.size us (rowsA (L.map (·.1)))) (hr : (rowsA (L.map (·.1)))[k]? = some r) (hu : W.ownsRow w.heap.size 3 1 u r.length (ints r)) (D : Nat) : NrStep w W av win a n c L P B k v us u D := by
  intro w1 v' tmp hown' hgrow
  have hB := hI.1.choose_spec.choose_spec.2.2.2
  have hs : (w.alloc (.cells #[.slice a n c, av, .int .i64 win] 30)).heap.size = w.heap.size + 1 := by simp
  obtain ⟨h1, h2⟩ := AsI.next (w := w.alloc (.cells #[.slice a n c, av, .int .i64 win] 30)) (B1 := w.heap.size) (by rw [hs]; exact hv) (by rw [hs]; exact ho) he hB hr hu D w1 v' tmp (by rw [hs]; exact hown') hgrow
  rw [hs] at h1 h2
  have hsz := hB.size
  rw [hs] at hsz
  obtain ⟨hv1, -⟩ := hv.appended (by decide) ho hsz (by omega) hown' hgrow
  have key := fun (t : TypeId) (ht : t ≠ 28) (ht2 : t ≠ 34) => keepsT_app (v' := v') t ht ht2 ho hgrow hv1
  exact ⟨h1, key 41 (by decide) (by decide), h2, key 4 (by decide) (by decide) _ _ _ hI.2.1, key 27 (by decide) (by decide) _ _ _ hI.2.2.1, key 60 (by decide) (by decide) _ _ _ hI.2.2.2⟩
theorem belowK_b0 {w : World} {v av : Value} {win : Int} {a : Option Addr} {n c : Nat} {L : List (St × Value)} {P B k : Nat} {W : World} (h : NrI w v av win a n c L P B k W) : Below w.heap.size w W := by
  have hB := h.1.choose_spec.choose_spec.2.2.2
  exact (kept_new w (.cells #[v, av, .int .i64 win] 30)).trans (hB.mono (by simp))
set_option maxHeartbeats 4000000 in
theorem rowsA_V {v av : Value} {L : List (St × Value)} (win : Int) (hL : L.length ≤ 1000000) (hp : ∀ s ∈ L.map (·.1), -1000000 ≤ s.place ∧ s.place ≤ 1000000) (w : World) (h : StsL w v L) (hav : ∃ a c m, av = .slice a m c) :
    Calls Tryz.prog 9 #[auV v av win] w fun e w' => ∃ u, e = .returned u ∧ OwnRows w' w.heap.size u (rowsA (L.map (·.1))) ∧ Below w.heap.size w w' := by
  obtain ⟨n, hn⟩ : ∃ n, L.length = n := ⟨_, rfl⟩
  obtain ⟨a, c, rfl⟩ := h.lit hn
  obtain ⟨aa, ca, ma, rfl⟩ := hav
  have hb := kept_new w (.cells #[.slice a n c, .slice aa ma ca, .int .i64 win] 30)
  have hpt := AuBox.new w (.slice a n c) (.slice aa ma ca) win
  have hs0 : (w.alloc (.cells #[.slice a n c, .slice aa ma ca, .int .i64 win] 30)).heap.size = w.heap.size + 1 := by simp
  have hb1 := kept_new (w.alloc (.cells #[.slice a n c, .slice aa ma ca, .int .i64 win] 30)) (.cells #[.slice none 0 0] 34)
  have hs1 : ((w.alloc (.cells #[.slice a n c, .slice aa ma ca, .int .i64 win] 30)).alloc (.cells #[.slice none 0 0] 34)).heap.size = w.heap.size + 2 := by simp
  have hA0 : AsI (w.alloc (.cells #[.slice a n c, .slice aa ma ca, .int .i64 win] 30)) w.heap.size (rowsA (L.map (·.1))) 0 ((w.alloc (.cells #[.slice a n c, .slice aa ma ca, .int .i64 win] 30)).alloc (.cells #[.slice none 0 0] 34)) :=
    ⟨.slice none 0 0, [], Boxed.new _ 34 _, by simpa using World.ownsRow_nil _ _ _ _, fun i u r hu => by simp at hu, hb1⟩
  have hpt1 := hpt.later hb1
  have c0 := hpt1.c0
  have c1 := hpt1.c1
  have c2 := hpt1.c2
  have hB01 := kept_trans hb hb1
  have hRi := Lib.hid (rightS_V (av := .slice aa ma ca) win hL hp _ (h.later hB01))
  obtain ⟨R, hR⟩ : ∃ R, rightA (L.map (·.1)) = R := ⟨_, rfl⟩
  rw [hR] at hRi
  have hW := Lib.hid (fun (X : World) (hX : Below w.heap.size w X) (i : Nat) (hi : i < n) (hT : R = true) => way_any a n c L hn (by omega) (by rw [hR]; exact hT) i (by omega) X (h.later hX))
  replace h := Lib.hid h
  refine (callsIn_wide (n := 9)).1 ?_
  refine callsIn_of_wp_marks Tryz.func9 rfl trivial ?_ rfl
  rw [wpIn_wide]
  simp only [Tryz.ntmps9, List.size_toArray, List.length_cons, List.length_nil, Nat.reduceAdd, Nat.reduceSub, Array.replicate_succ, Array.replicate_zero, List.push_toArray, List.append_toArray, List.nil_append, List.cons_append]
  go_wp2_with fail
  refine hRi.out.mono ?_
  rintro e w3 ⟨rfl, hb3⟩
  have hA3 := AsI.own _ _ _ _ (Nat.le_refl _) 0 _ _ none hA0 (grown_of_below hb3) (fun r e => by cases e)
  have hpt3 := hpt1.later hb3
  have hB3 := kept_trans hB01 hb3
  have hs3 : w.heap.size + 2 ≤ w3.heap.size := by have := hb3.size; omega
  clear hRi hA0 hpt hpt1 c0 c1 c2 hb1 hs1 hb hb3
  have hx1 := kept_new w3 (.cells #[.bool R] 4)
  have hx2 := kept_new (w3.alloc (.cells #[.bool R] 4)) (.cells #[.slice a n c] 27)
  have hx3 := kept_new ((w3.alloc (.cells #[.bool R] 4)).alloc (.cells #[.slice a n c] 27)) (.cells #[.func (.func 29) #[] #[]] 60)
  have hx23 := hx2.trans (hx3.mono (by simp))
  have hx := kept_trans hx1 hx23
  have d0 := (hpt3.later hx1).c0
  have d1 := (hpt3.later hx1).c1
  have d2 := (hpt3.later hx1).c2
  have hI0 : NrI w (.slice a n c) (.slice aa ma ca) win a n c L w3.heap.size (w3.heap.size + 1) 0 (((w3.alloc (.cells #[.bool R] 4)).alloc (.cells #[.slice a n c] 27)).alloc (.cells #[.func (.func 29) #[] #[]] 60)) := by
    refine ⟨AsI.own _ _ _ _ (Nat.le_refl _) 0 _ _ none hA3 (grown_of_below hx) (fun r e => by cases e), ?_, ?_, ?_⟩
    · rw [hR]
      exact (hx23.block _ (by simp)).trans (heap_alloc_new w3 _)
    · have := heap_alloc_new (w3.alloc (.cells #[.bool R] 4)) (.cells #[.slice a n c] 27)
      rw [World.size_alloc] at this
      exact (hx3.block _ (by simp)).trans this
    · have := heap_alloc_new ((w3.alloc (.cells #[.bool R] 4)).alloc (.cells #[.slice a n c] 27)) (.cells #[.func (.func 29) #[] #[]] 60)
      rw [World.size_alloc, World.size_alloc] at this
      exact this
  replace hA3 := True.intro
  replace hI0 := Lib.hid hI0
  replace hx1 := True.intro
  replace hx2 := True.intro
  replace hx3 := True.intro
  replace hx23 := True.intro
  have hBx := Lib.hid (kept_trans hB3 hx)
  replace hx := True.intro
  clear hA3 hx1 hx2 hx3 hx23 hx
  go_wp2_with ((with_reducible refine (those_any _ _ _ _ _ _).mono ?_); rintro e w8 ⟨rfl, rfl⟩)
  have hs8 : (((w3.alloc (.cells #[.bool R] 4)).alloc (.cells #[.slice a n c] 27)).alloc (.cells #[.func (.func 29) #[] #[]] 60)).heap.size = w3.heap.size + 3 := by simp
  refine (wpIn_wide (n := 9)).1 ?_
  replace hI0 := hI0.out
  replace hBx := hBx.out
  clear d0 d1 d2
  generalize ((w3.alloc (.cells #[.bool R] 4)).alloc (.cells #[.slice a n c] 27)).alloc (.cells #[.func (.func 29) #[] #[]] 60) = W8 at *
  obtain ⟨P, hP⟩ : ∃ P, w3.heap.size = P := ⟨_, rfl⟩
  rw [hP] at hI0 ⊢
  obtain ⟨i0, hi, hz0, hz1, hz2⟩ := info_parts Tryz.info28
  replace hi := Lib.hid hi
  refine wpIn_rangeFunc_rowT rfl (by omega) (gf := 52) (lb := #[ptr (P + 1), ptr (P + 1 + 1)]) rfl trivial (enters_of Tryz.func52 (by kernel_rfl) rfl)
    (those29 8 (P + 1) 41 (by omega) a n c L (by omega) W8) (Below.refl _ _) (fun k hk => thRow_size hk)
    (NrI w (.slice a n c) (.slice aa ma ca) win a n c L P (P + 1)) (fun _ _ => False) (NrI.own w _ _ _ _ _ _ _ _ _ _ (by omega)) (fun k X Y r h => h.elim)
    (fun k W hI => ⟨⟨hI.2.2.1, hn, h.out.later (belowK_b0 hI)⟩, hI.2.2.2, trivial⟩) (fun _ _ h => h.elim)
    hI0
    (fun k a' W => ∃ j : Nat, (thoseL (fun s => s.last) (L.map (·.1)))[k]? = some j ∧
      a' = { tmps := #[auV (.slice a n c) (.slice aa ma ca) win, ptr w.heap.size, .slice none 0 0, ptr (w.heap.size + 1), ptr P, .int .i64 j, undef, auV (.slice a n c) (.slice aa ma ca) win, .bool R, ptr w.heap.size, .slice a n c, .func (.func 52) #[] #[ptr (P + 1), ptr (P + 1 + 1)], .int .i64 j, undef, undef, undef, undef, undef, undef, undef, undef, undef, undef], defers := [] })
    ?ax ?assign ?body ?done ?stop
  case ax =>
    rintro k a' ⟨⟩ X Y row ⟨j, h1, h2⟩ hg hrow
    exact ⟨j, h1, h2⟩
  case assign =>
    intro l k W K hk hI hK
    rw [thRow_len] at hk
    obtain ⟨j, hx⟩ : ∃ y, (thoseL (fun s => s.last) (L.map (·.1)))[k]? = some y := ⟨_, List.getElem?_eq_getElem hk⟩
    rw [thRow_at hx]
    gi_wp2
    exact hK _ _ (KeepsFrom.refl _ _) (KeepsT.refl _ _) hI ⟨j, hx, rfl⟩
  case body =>
    rintro l k a' W hk hI ⟨j, hx, rfl⟩
    rw [thRow_len] at hk
    have hkl : k ≤ 1000000 := by have := those_few (fun s => s.last) (L.map (·.1)); simp only [List.length_map] at this; omega
    have hjl : j < n := by have := those_lt (List.mem_of_getElem? hx); simpa [hn] using this
    have hBW := belowK_b0 hI
    have hcb : W.cell? ⟨P, 0, none⟩ = some (.bool R) := by have := hI.2.1; rw [hR] at this; simp [World.cell?, this]
    have hr := rowsA_at hx
    rw [hR] at hr
    replace h := True.intro
    clear h hx hI0 hs8 hs3
    cases R with
    | false =>
      rw [if_neg (by simp)] at hr
      obtain ⟨v, us, hv, ho, he, hB⟩ := hI.1
      rw [hs0] at hv ho
      have H := Lib.hid (NrI.next hI hv ho he hr (u := .slice none 0 0) (by simpa using World.ownsRow_nil W w.heap.size 3 1) W8.heap.size)
      have hcv := hv.cell
      have hfv := hv.frozen
      have hsz : Hid (w.heap.size + 1 ≤ W.heap.size) := Lib.hid (by have := hB.size; omega)
      have hlu : us.length = k := by have := ho.1; simpa using this
      replace hv := Lib.hid hv
      replace ho := Lib.hid ho
      replace hI := True.intro
      clear hI he hW hBW hB hr
      gi_wp2_with (gi_at_builtin; refine wpListIn_append_own _ rfl _ _ 34 rfl (w.heap.size + 1) 28 i0 (.slice none 0 0) 1 24 Tryz.underlying34 hi.out hz0 hz1 hz2 rfl (by decide) _ _ _ rfl (ho.out.alloc _) ⟨W.heap.size, 0, none⟩ 1 1 [.slice none 0 0] rfl rfl (cell_one_new _ _ _) (by simp [Value.oneCell']) (by unfold maxLen; omega) (by omega) (by have := hsz.out; simp; omega) ?_; intro v' w1 hown' hgrow _; have hvv := hv.out.appended (by decide) ho.out hsz.out (by omega) hown' hgrow; have hcv1 := hvv.1.cell; have hfv1 := hvv.1.frozen; clear hvv; obtain ⟨g', cap', rfl⟩ := ownsRow_succ hown')
      exact H.out _ _ _ hown' hgrow
    | true =>
      rw [if_pos rfl] at hr
      have hAu : AuBox w.heap.size (.slice a n c) (.slice aa ma ca) win W := (AuBox.new w (.slice a n c) (.slice aa ma ca) win).later hI.1.choose_spec.choose_spec.2.2.2
      have c0 := hAu.c0
      have hWc := Lib.hid (hW.out W hBW j hjl rfl)
      replace hI := Lib.hid hI
      replace hBW := Lib.hid hBW
      obtain ⟨q, hq⟩ : ∃ q, wayL (L.map (·.1)) j = q := ⟨_, rfl⟩
      rw [hq] at hWc hr
      replace hr := Lib.hid hr
      clear hW hAu hq hR
      gi_wp2_with fail
      refine ⟨trivial, ((callsIn_wide (n := 6)).2 hWc.out).mono ?_⟩
      rintro e w4 ⟨u, rfl, ho4, hb4⟩
      have hI4 := hI.out.later hb4
      have hu4 := row_base ho4 hBW.out.size
      obtain ⟨v, us, hv, ho, he, hB⟩ := hI4.1
      rw [hs0] at hv ho
      have H := Lib.hid (NrI.next hI4 hv ho he hr.out hu4 W8.heap.size)
      have hkf := Lib.hid (keeps_of_below (B := W8.heap.size) hb4)
      have hkt := Lib.hid (KeepsT.of_below (t := 41) hb4)
      obtain ⟨a0, c0', rfl, -⟩ := nms_own ho4
      generalize hql : q.length = m0 at *
      have hcv := hv.cell
      have hfv := hv.frozen
      have hsz : Hid (w.heap.size + 1 ≤ w4.heap.size) := Lib.hid (by have := hB.size; omega)
      have hlu : us.length = k := by have := ho.1; simpa using this
      replace hv := Lib.hid hv
      replace ho := Lib.hid ho
      clear hI he hBW hB hr hI4 hu4 ho4 hb4 hWc hcb c0 hql
      gi_wp2_with (gi_at_builtin; refine wpListIn_append_own _ rfl _ _ 34 rfl (w.heap.size + 1) 28 i0 (.slice none 0 0) 1 24 Tryz.underlying34 hi.out hz0 hz1 hz2 rfl (by decide) _ _ _ rfl (ho.out.alloc _) ⟨w4.heap.size, 0, none⟩ 1 1 [.slice a0 m0 c0'] rfl rfl (cell_one_new _ _ _) (by simp [Value.oneCell']) (by unfold maxLen; omega) (by omega) (by have := hsz.out; simp; omega) ?_; intro v' w1 hown' hgrow _; have hvv := hv.out.appended (by decide) ho.out hsz.out (by omega) hown' hgrow; have hcv1 := hvv.1.cell; have hfv1 := hvv.1.frozen; clear hvv; obtain ⟨g', cap', rfl⟩ := ownsRow_succ hown')
      have HH := H.out _ _ _ hown' hgrow
      exact ⟨hkf.out.trans HH.1, hkt.out.trans HH.2.1, HH.2.2⟩
  case done =>
    rintro D W hD hI hK
    rw [thRow_len] at hI
    obtain ⟨v, us, hv, ho, he, hB⟩ := hI.1
    rw [hs0] at hv ho
    have hcv := hv.cell
    have hDw : w.heap.size ≤ D := by omega
    have hl := rowsA_len (L.map (·.1))
    have hBW := belowK_b0 hI
    go_wp2
    refine ⟨by simp, .inl ⟨_, _, rfl, run_takeDeferred hK, ?_⟩⟩
    refine ⟨_, results_tmp rfl _ _ _, v, rfl, ⟨us, ownsRow_putObj (row_base (by rw [hl]; exact ho) (by omega)) _ hK rfl, fun i x q hx hq => ownsRow_putObj (he i x q hx hq) _ hK rfl⟩, hBW.trans (belowK_b (w := w) (Nat.le_refl _) W D _ (.deferred none) hDw hK rfl rfl)⟩
  case stop => exact fun _ _ _ _ h => h.elim
end Go.Proofs.YtccmnngeibpcmaaGreat.Tree
/- slices.IndexFunc of states asked by along$1; the reference's ints and Rowed. -/
namespace Go.Proofs.YtccmnngeibpcmaaGreat.Tree
open Go.ChangeShapes Go.WideShapes Go.ChangeAt Go.RowKit
set_option linter.unusedVariables false
set_option linter.unusedSimpArgs false
set_option maxRecDepth 100000
attribute [local go_sem] Oper.semAt_some
/-- The first of the states that is asked for; -1, where none is. -/
def firstF (q : St → Bool) (ss : List St) : Int := match thoseL q ss with | [] => -1 | j :: _ => (j : Int)
theorem firstF_at {q : St → Bool} {ss : List St} {j : Nat} (hj : j < ss.length) (h0 : idxF q ss j = []) (hq : q (stA ss j) = true) : firstF q ss = j := by
  obtain ⟨r, h⟩ := idxF_pre q ss (j + 1) (ss.length - (j + 1))
  rw [show j + 1 + (ss.length - (j + 1)) = ss.length by omega, idxF_succ, if_pos hq, h0] at h
  unfold firstF thoseL
  rw [h]
  rfl
theorem firstF_none {q : St → Bool} {ss : List St} (h0 : idxF q ss ss.length = []) : firstF q ss = -1 := by
  unfold firstF thoseL
  rw [h0]
theorem idxF_skip {q : St → Bool} {ss : List St} {j : Nat} (h0 : idxF q ss j = []) (hq : q (stA ss j) = false) : idxF q ss (j + 1) = [] := by
  rw [idxF_succ, h0, hq]
  rfl
/-- What along$1 asks. -/
def askQ (x y : Int) (s : St) : Bool := (s.ahead == x) && (s.step == y)
theorem ask46 (B1 B2 : Nat) (x y : Int) (s : St) (gv : Value) (hgv : ∃ a c m, gv = .slice a m c) (w : World) (h1 : w.heap[B1]? = some (.cells #[.int .i64 x] 3 (0, 0))) (h2 : w.heap[B2]? = some (.cells #[.int .i64 y] 3 (0, 0))) :
    Calls Tryz.prog 46 #[stV s gv, ptr B1, ptr B2] w fun e w' => e = .returned (.bool (askQ x y s)) ∧ Below w.heap.size w w' := by
  obtain ⟨a, c, m, rfl⟩ := hgv
  have hb := kept_new w (.cells #[.int .i64 s.step, .int .i64 s.place, .bool s.strict, .slice a m c, .int .i64 s.ahead, .bool s.last] 41)
  have hx : (w.alloc (.cells #[.int .i64 s.step, .int .i64 s.place, .bool s.strict, .slice a m c, .int .i64 s.ahead, .bool s.last] 41)).cell? ⟨B1, 0, none⟩ = some (.int .i64 x) := by
    have := (hb.block _ (Array.getElem?_eq_some_iff.1 h1).1).trans h1
    simp [World.cell?, this]
  have hy : (w.alloc (.cells #[.int .i64 s.step, .int .i64 s.place, .bool s.strict, .slice a m c, .int .i64 s.ahead, .bool s.last] 41)).cell? ⟨B2, 0, none⟩ = some (.int .i64 y) := by
    have := (hb.block _ (Array.getElem?_eq_some_iff.1 h2).1).trans h2
    simp [World.cell?, this]
  obtain ⟨Q, hQ⟩ : ∃ Q, askQ x y s = Q := ⟨_, rfl⟩
  rw [hQ]
  unfold askQ at hQ
  by_cases hax : s.ahead = x
  · subst hax
    rw [beq_self_eq_true, Bool.true_and] at hQ
    go_enter Tryz.func46, Tryz.ntmps46
    go_wp2
    go_ret
    exact ⟨rfl, hb⟩
  · have e : (s.ahead == x) = false := by simp [hax]
    rw [e, Bool.false_and] at hQ
    subst hQ
    replace hax := True.intro
    clear hax
    go_enter Tryz.func46, Tryz.ntmps46
    go_wp2
    go_ret
    exact ⟨rfl, hb⟩
set_option maxHeartbeats 1000000 in
theorem index46 (B1 B2 : Nat) (x y : Int) (a : Option Addr) (n c : Nat) (L : List (St × Value)) (hn : L.length = n) (hl : n ≤ 1000000) (w : World) (h : StsL w (.slice a n c) L) (h1 : w.heap[B1]? = some (.cells #[.int .i64 x] 3 (0, 0))) (h2 : w.heap[B2]? = some (.cells #[.int .i64 y] 3 (0, 0))) :
    Calls Tryz.prog 45 #[.slice a n c, .func (.func 46) #[] #[ptr B1, ptr B2]] w fun e w' => e = .returned (.int .i64 (firstF (askQ x y) (L.map (·.1)))) ∧ Below w.heap.size w w' := by
  obtain ⟨R, hR⟩ : ∃ R, firstF (askQ x y) (L.map (·.1)) = R := ⟨_, rfl⟩
  rw [hR]
  have hlen : (L.map (·.1)).length = n := by simp [hn]
  replace h := Lib.hid h
  replace h1 := Lib.hid h1
  replace h2 := Lib.hid h2
  replace hR := Lib.hid hR
  go_enter Tryz.func45, Tryz.ntmps45
  go_wp2_with fail
  go_loopw [8] (fun t wr => ∃ i : Nat, i ≤ n ∧ t = .int .i64 i ∧ Hid (Below w.heap.size w wr) ∧ Hid (idxF (askQ x y) (L.map (·.1)) i = [])) (fun t _ => n - (intOf t).toNat)
  case atStart => exact ⟨0, Nat.zero_le _, rfl, Lib.hid (Below.refl _ _), Lib.hid rfl⟩
  case round =>
    obtain ⟨i, hi, rfl, hb, hno⟩ := hrel
    by_cases hlt : i < n
    · have hlti : (i : Int) < n := by omega
      obtain ⟨⟨s, v⟩, hx⟩ : ∃ y, L[i]? = some y := ⟨_, List.getElem?_eq_getElem (by omega)⟩
      have hW := h.out.later hb.out
      obtain ⟨b, o, rfl, z0, z1, z2, z3, z4, z5⟩ := hW.at hx
      obtain ⟨a2, c2, hv, -⟩ := hW.2 _ (List.mem_of_getElem? hx)
      dsimp only at hv
      subst hv
      have hA : stA (L.map (·.1)) i = s := stA_of (by simp [hx])
      have hk1 := (hb.out.block _ (Array.getElem?_eq_some_iff.1 h1.out).1).trans h1.out
      have hk2 := (hb.out.block _ (Array.getElem?_eq_some_iff.1 h2.out).1).trans h2.out
      generalize hm : s.gs.length = m at *
      have hask := Lib.hid (ask46 B1 B2 x y s (.slice a2 m c2) ⟨_, _, _, rfl⟩ wr hk1 hk2)
      have hyes : Hid (askQ x y s = true → R = (i : Int)) := Lib.hid fun hq => by rw [← hR.out]; exact firstF_at (by omega) hno.out (by rw [hA]; exact hq)
      have hnot : Hid (askQ x y s = false → idxF (askQ x y) (L.map (·.1)) (i + 1) = []) := Lib.hid fun hq => idxF_skip hno.out (by rw [hA]; exact hq)
      clear hk1 hk2 hm hA hW hx hno
      generalize askQ x y s = q at *
      cases q with
      | true =>
        have hRi : R = (i : Int) := hyes.out rfl
        subst hRi
        clear hyes hnot hR
        go_wp2_with ((with_reducible refine hask.out.mono ?_); rintro e w4 ⟨rfl, hB4⟩; have hB4' := Lib.hid (kept_trans hb.out hB4); clear hB4)
        go_ret
        exact ⟨rfl, hB4'.out⟩
      | false =>
        replace hnot := Lib.hid (hnot.out rfl)
        clear hyes
        go_wp2_with ((with_reducible refine hask.out.mono ?_); rintro e w4 ⟨rfl, hB4⟩; have hB4' := Lib.hid (kept_trans hb.out hB4); clear hB4)
        exact ⟨⟨i + 1, by omega, by go_num, hB4', hnot⟩, by simp [intOf]; omega⟩
    · have hRt : R = -1 := by
        rw [← hR.out]
        exact firstF_none (by rw [hlen, ← show i = n by omega]; exact hno.out)
      subst hRt
      clear hR
      have hlti : ¬ (i : Int) < n := by omega
      go_wp2_with fail
      go_ret
      exact ⟨rfl, hb.out⟩
/-- ref14.ints. -/
theorem rints_any {v u : Value} {l k : List Int} {w : World} (h1 : NmsAt w v l) (h2 : NmsAt w u k) (hs : l.length ≤ 140737488351232) :
    Calls Tryz.prog 31 #[v, u] w fun e w' => e = .returned (.bool (decide (l = k))) ∧ Below w.heap.size w w' := by
  have hi := Lib.hid (ints_any (v := v) (u := u) h1 h2 hs)
  obtain ⟨a1, c1, rfl, -⟩ := h1
  obtain ⟨a2, c2, rfl, -⟩ := h2
  generalize l.length = n1 at *
  generalize k.length = n2 at *
  go_enter Tryz.func31, Tryz.ntmps31
  go_wp2_with ((with_reducible refine hi.out.mono ?_); rintro e w4 ⟨rfl, hB4⟩)
  go_ret
  exact ⟨rfl, hB4⟩
end Go.Proofs.YtccmnngeibpcmaaGreat.Tree
/- The reference's Rowed. -/
namespace Go.Proofs.YtccmnngeibpcmaaGreat.Tree
open Go.ChangeShapes Go.WideShapes Go.ChangeAt Go.RowKit
set_option linter.unusedVariables false
set_option linter.unusedSimpArgs false
set_option maxRecDepth 100000
attribute [local go_sem] Oper.semAt_some
set_option maxRecDepth 100000 in
set_option maxHeartbeats 1000000 in
theorem ints_dr (a1 a2 : Option Addr) (n m c1 c2 : Nat) (l k : List Int) (R : Bool) (w : World) (hR : Hid (decide (l = k) = R)) (hn : Hid (l.length = n)) (hm : Hid (k.length = m)) (hs : n ≤ 140737488351232) (h1 : Hid (IntsAt w (.slice a1 n c1) l)) (h2 : Hid (IntsAt w (.slice a2 m c2) k)) :
    Calls Tryz.prog 14 #[.slice a1 n c1, .slice a2 m c2] w fun e w' => e = .returned (.bool R) ∧ ∃ m, w' = w.drewN m := by
  by_cases hnm : n = m
  · subst hnm
    go_enter Tryz.func14, Tryz.ntmps14
    go_wp2_with fail
    have hd := Lib.hid (fun m => drewN_kept w m)
    have hd2 := Lib.hid (fun m k => kept_trans (drewN_kept w m) (drewN_kept _ k))
    go_loopw [5] (fun t wr => ∃ i : Nat, i ≤ n ∧ t = .int .i64 i ∧ (∃ m, wr = w.drewN m) ∧ Hid (∀ j, j < i → l[j]? = k[j]?)) (fun t _ => n - (intOf t).toNat)
    case atStart => exact ⟨0, Nat.zero_le _, rfl, ⟨0, rfl⟩, fun j hj => by omega⟩
    case round =>
      obtain ⟨i, hi, rfl, ⟨m, rfl⟩, hall⟩ := hrel
      by_cases hlt : i < n
      · obtain ⟨x, hx⟩ : ∃ x, l[i]? = some x := ⟨_, List.getElem?_eq_getElem (by rw [hn.out]; exact hlt)⟩
        obtain ⟨y, hy⟩ : ∃ y, k[i]? = some y := ⟨_, List.getElem?_eq_getElem (by rw [hm.out]; exact hlt)⟩
        obtain ⟨p1, o1, rfl, x0⟩ := (h1.out.later (drewN_kept w m)).at hn.out hx
        obtain ⟨p2, o2, rfl, y0⟩ := (h2.out.later (drewN_kept w m)).at hm.out hy
        have x0' : w.cell? ⟨p1, o1 + i, none⟩ = some (.int .i64 x) := x0
        have y0' : w.cell? ⟨p2, o2 + i, none⟩ = some (.int .i64 y) := y0
        have hlti : (i : Int) < n := by omega
        have hne := Lib.hid (neq_at hx hy)
        have hat := Lib.hid (at_eq hx hy)
        clear hx hy
        by_cases hB : x = y
        · replace hat := Lib.hid (hat.out hB)
          subst hB
          go_wp2_with fail
          go_quiet (fail)
          go_wp2_with fail
          exact ⟨⟨i + 1, by omega, by go_num, ⟨m + nq, by simp [World.drewN, Nat.add_assoc]⟩, all_succ hall.out hat.out⟩, by simp [intOf]; omega⟩
        · have hRf : R = false := by rw [← hR.out]; simp; exact hne.out hB
          subst hRf
          clear hR
          have hBb : (x == y) = false := by simpa using hB
          go_wp2_with fail
          go_quiet (fail)
          go_wp2_with fail
          go_ret
          exact ⟨rfl, m + nq, by simp [World.drewN, Nat.add_assoc]⟩
      · have hRt : R = true := by rw [← hR.out]; simp; exact eq_all hn.out hm.out (i := i) (by omega) hall.out
        subst hRt
        clear hR
        have hlti : ¬ (i : Int) < n := by omega
        go_wp2_with fail
        go_ret
        exact ⟨rfl, m, rfl⟩
  · have hRf : R = false := by rw [← hR.out]; simp; intro e; exact hnm (hn.out.symm.trans ((congrArg List.length e).trans hm.out))
    subst hRf
    clear hR
    have hnmi : ¬ (n : Int) = m := by omega
    have hb : ((n : Int) == m) = false := by simpa using hnmi
    go_enter Tryz.func14, Tryz.ntmps14
    go_wp2_with fail
    go_ret
    exact ⟨rfl, 0, rfl⟩
theorem rints_dr {v u : Value} {l k : List Int} {w : World} (h1 : NmsAt w v l) (h2 : NmsAt w u k) (hs : l.length ≤ 140737488351232) :
    Calls Tryz.prog 31 #[v, u] w fun e w' => e = .returned (.bool (decide (l = k))) ∧ ∃ m, w' = w.drewN m := by
  have hA1 : IntsAt w v l := h1
  have hA2 : IntsAt w u k := h2
  obtain ⟨a1, c1, rfl, -⟩ := h1
  obtain ⟨a2, c2, rfl, -⟩ := h2
  have hi := Lib.hid (ints_dr a1 a2 l.length k.length c1 c2 l k _ w rfl (Lib.hid rfl) (Lib.hid rfl) hs (Lib.hid hA1) (Lib.hid hA2))
  clear hA1 hA2
  generalize l.length = n1 at *
  generalize k.length = n2 at *
  go_enter Tryz.func31, Tryz.ntmps31
  go_wp2_with ((with_reducible refine hi.out.mono ?_); rintro e w4 ⟨rfl, hB4⟩)
  go_ret
  exact ⟨rfl, hB4⟩
theorem rows_next {R1 R2 : List (List Int)} {i : Nat} {x y : List Int} (hx : R1[i]? = some x) (hy : R2[i]? = some y) (h : ∀ j, j < i → R1[j]? = R2[j]?) (e : x = y) : ∀ j, j < i + 1 → R1[j]? = R2[j]? := by
  intro j hj
  by_cases hji : j = i
  · subst hji; rw [hx, hy, e]
  · exact h j (by omega)
set_option maxHeartbeats 1000000 in
theorem rowed_ac (a1 a2 : Option Addr) (n m c1 c2 : Nat) (R1 R2 : List (List Int)) (R : Bool) (w : World) (hR : Hid (decide (R1 = R2) = R)) (hn : Hid (R1.length = n)) (hm : Hid (R2.length = m)) (hs : n ≤ 1000000) (hl : Hid (∀ r ∈ R1, r.length ≤ 1000000)) (h1 : Hid (RowsAt w (.slice a1 n c1) R1)) (h2 : Hid (RowsAt w (.slice a2 m c2) R2)) :
    Calls Tryz.prog 11 #[.slice a1 n c1, .slice a2 m c2] w fun e w' => e = .returned (.bool R) ∧ Below w.heap.size w w' := by
  by_cases hnm : n = m
  · subst hnm
    go_enter Tryz.func11, Tryz.ntmps11
    go_wp2_with fail
    go_loopw [5] (fun t wr => ∃ i : Nat, i ≤ n ∧ t = .int .i64 i ∧ (∃ m, wr = w.drewN m) ∧ Hid (∀ j, j < i → R1[j]? = R2[j]?)) (fun t _ => n - (intOf t).toNat)
    case atStart => exact ⟨0, Nat.zero_le _, rfl, ⟨0, rfl⟩, Lib.hid (fun j hj => by omega)⟩
    case round =>
      obtain ⟨i, hi, rfl, ⟨m, rfl⟩, hall⟩ := hrel
      by_cases hlt : i < n
      · obtain ⟨x, hx⟩ : ∃ x, R1[i]? = some x := ⟨_, List.getElem?_eq_getElem (by rw [hn.out]; exact hlt)⟩
        obtain ⟨y, hy⟩ : ∃ y, R2[i]? = some y := ⟨_, List.getElem?_eq_getElem (by rw [hm.out]; exact hlt)⟩
        obtain ⟨vs1, g1⟩ := h1.out.later (drewN_kept w m)
        obtain ⟨vs2, g2⟩ := h2.out.later (drewN_kept w m)
        obtain ⟨u1, hu1, hn1⟩ := g1.at hx
        obtain ⟨u2, hu2, hn2⟩ := g2.at hy
        obtain ⟨b1, o1, rfl, z1⟩ := g1.cell hu1
        obtain ⟨b2, o2, rfl, z2⟩ := g2.cell hu2
        have z1' : w.cell? ⟨b1, o1 + i, none⟩ = some u1 := z1
        have z2' : w.cell? ⟨b2, o2 + i, none⟩ = some u2 := z2
        have hint : Hid (∀ k, Calls Tryz.prog 31 #[u1, u2] (w.drewN (m + k)) fun e w'' => e = .returned (.bool (decide (x = y))) ∧ ∃ k', w'' = w.drewN (m + k')) := Lib.hid fun k => by
          rw [← World.drewN_drewN]
          refine (rints_dr (hn1.later (drewN_kept _ k)) (hn2.later (drewN_kept _ k)) (by have := hl.out x (List.mem_of_getElem? hx); omega)).mono ?_
          rintro e w'' ⟨he, k', hk'⟩
          exact ⟨he, k + k', by rw [hk', World.drewN_drewN, World.drewN_drewN]⟩
        obtain ⟨p1, q1, rfl, -⟩ := hn1
        obtain ⟨p2, q2, rfl, -⟩ := hn2
        have hlti : (i : Int) < n := by omega
        have hyes : Hid (x = y → ∀ j, j < i + 1 → R1[j]? = R2[j]?) := Lib.hid (rows_next hx hy hall.out)
        have hno : Hid (x ≠ y → R = false) := Lib.hid fun h => by
          rw [← hR.out, decide_eq_false_iff_not]
          intro e
          rw [e, hy] at hx
          exact h (Option.some.inj hx).symm
        obtain ⟨D, hDe⟩ : ∃ D, decide (x = y) = D := ⟨_, rfl⟩
        rw [hDe] at hint
        generalize x.length = l1 at *
        generalize y.length = l2 at *
        cases D with
        | true =>
          have hya := Lib.hid (hyes.out (by simpa using hDe))
          clear hyes hno hDe hx hy hu1 hu2 g1 g2 hall z1 z2
          go_wp2_with fail
          go_quiet (exact hint.out _)
          go_wp2_with fail
          exact ⟨⟨i + 1, by omega, by go_num, ⟨m + nq, by simp [World.drewN, Nat.add_assoc]⟩, hya⟩, by simp [intOf]; omega⟩
        | false =>
          have hya := hno.out (by simpa using hDe)
          subst hya
          clear hyes hno hDe hx hy hu1 hu2 g1 g2 hall hR z1 z2
          go_wp2_with fail
          go_quiet (exact hint.out _)
          go_wp2_with fail
          go_ret
          exact ⟨rfl, kept_trans (drewN_kept w m) (drewN_kept _ nq)⟩
      · have hRt : R = true := by
          rw [← hR.out, decide_eq_true_iff]
          apply List.ext_getElem?
          intro j
          by_cases hj : j < i
          · exact hall.out j hj
          · rw [List.getElem?_eq_none (by rw [hn.out]; omega), List.getElem?_eq_none (by rw [hm.out]; omega)]
        subst hRt
        clear hR
        have hlti : ¬ (i : Int) < n := by omega
        go_wp2_with fail
        go_ret
        exact ⟨rfl, drewN_kept w m⟩
  · have hRf : R = false := by rw [← hR.out]; simp; intro e; exact hnm (hn.out.symm.trans ((congrArg List.length e).trans hm.out))
    subst hRf
    clear hR
    have hnmi : ¬ (n : Int) = m := by omega
    have hb : ((n : Int) == m) = false := by simpa using hnmi
    go_enter Tryz.func11, Tryz.ntmps11
    go_wp2_with fail
    go_ret
    exact ⟨rfl, Below.refl _ _⟩
theorem rowed_any {v u : Value} {R1 R2 : List (List Int)} {w : World} (h1 : RowsAt w v R1) (h2 : RowsAt w u R2) (hs : R1.length ≤ 1000000) (hl : ∀ r ∈ R1, r.length ≤ 1000000) :
    Calls Tryz.prog 11 #[v, u] w fun e w' => e = .returned (.bool (decide (R1 = R2))) ∧ Below w.heap.size w w' := by
  obtain ⟨vs1, ⟨a1, c1, rfl, g1⟩, e1, k1⟩ := h1
  obtain ⟨vs2, ⟨a2, c2, rfl, g2⟩, e2, k2⟩ := h2
  exact rowed_ac a1 a2 _ _ c1 c2 R1 R2 _ w rfl (Lib.hid rfl) (Lib.hid rfl) hs (Lib.hid hl) (Lib.hid ⟨vs1, ⟨a1, c1, rfl, g1⟩, e1, k1⟩) (Lib.hid ⟨vs2, ⟨a2, c2, rfl, g2⟩, e2, k2⟩)
end Go.Proofs.YtccmnngeibpcmaaGreat.Tree
/- The reference's Right of an automaton. -/
namespace Go.Proofs.YtccmnngeibpcmaaGreat.Tree
open Go.ChangeShapes Go.WideShapes Go.ChangeAt Go.RowKit
set_option linter.unusedVariables false
set_option linter.unusedSimpArgs false
set_option maxRecDepth 100000
attribute [local go_sem] Oper.semAt_some
set_option maxHeartbeats 2000000 in
theorem rightR_V {v av : Value} {L : List (St × Value)} (win : Int) (hL : L.length ≤ 1000000) (hp : ∀ s ∈ L.map (·.1), -1000000 ≤ s.place ∧ s.place ≤ 1000000) (w : World) (h : StsL w v L) (hav : ∃ a c m, av = .slice a m c) :
    Calls Tryz.prog 10 #[auV v av win] w fun e w' => e = .returned (.bool (rightA (L.map (·.1)))) ∧ Below w.heap.size w w' := by
  obtain ⟨n, hn⟩ : ∃ n, L.length = n := ⟨_, rfl⟩
  obtain ⟨a, c, rfl⟩ := h.lit hn
  obtain ⟨aa, ca, ma, rfl⟩ := hav
  rw [hn] at hL
  obtain ⟨R, hR⟩ : ∃ R, rightA (L.map (·.1)) = R := ⟨_, rfl⟩
  rw [hR]
  have hb0 := Lib.hid (kept_new w (.cells #[.slice a n c, .slice aa ma ca, .int .i64 win] 30))
  have hpt := Lib.hid (AuBox.new w (.slice a n c) (.slice aa ma ca) win)
  replace h := Lib.hid h
  replace hR := Lib.hid hR
  replace hp := Lib.hid hp
  go_enter Tryz.func10, Tryz.ntmps10
  go_wp2_with fail
  go_loopw [3] (fun t wr => ∃ i : Nat, i ≤ n ∧ t = .int .i64 i ∧ Hid (Below w.heap.size w wr) ∧ Hid (AuBox w.heap.size (.slice a n c) (.slice aa ma ca) win wr) ∧ Hid (restA (L.map (·.1)) i = R)) (fun t _ => n - (intOf t).toNat)
  case atStart => exact ⟨0, Nat.zero_le _, rfl, hb0, hpt, Lib.hid (by rw [restA_zero]; exact hR.out)⟩
  case round =>
    obtain ⟨i, hi, rfl, hb, hau, hre⟩ := hrel
    have c0 := hau.out.c0
    by_cases hlt : i < n
    · have hlti : (i : Int) < n := by omega
      obtain ⟨⟨s, gv⟩, hx⟩ : ∃ y, L[i]? = some y := ⟨_, List.getElem?_eq_getElem (by omega)⟩
      have hW := h.out.later hb.out
      obtain ⟨b, o, rfl, z0, z1, z2, z3, z4, z5⟩ := hW.at hx
      obtain ⟨a2, c2, hv, -⟩ := hW.2 _ (List.mem_of_getElem? hx)
      dsimp only at hv
      subst hv
      have hA : stA (L.map (·.1)) i = s := stA_of (by simp [hx])
      have hrs := restA_step (ss := L.map (·.1)) (k := i) (by simp; omega)
      rw [hA, hre.out] at hrs
      generalize hm : s.gs.length = m at *
      have hkn := kept_new wr (.cells #[.int .i64 s.step, .int .i64 s.place, .bool s.strict, .slice a2 m c2, .int .i64 s.ahead, .bool s.last] 41)
      obtain ⟨q0, q1, -, -, q4, -⟩ := (StBox.new wr s (.slice a2 m c2)).cells
      have hb2 := Lib.hid (kept_trans hb.out hkn)
      have hau2 := Lib.hid (hau.out.later hkn)
      have d0 := hau2.out.c0
      have hbad : Hid (stOk (L.map (·.1)) i s = false → R = false) := Lib.hid fun h => by rw [hrs, h]; rfl
      have hgood : Hid (stOk (L.map (·.1)) i s = true → restA (L.map (·.1)) (i + 1) = R) := Lib.hid fun h => by rw [hrs, h, Bool.true_and]
      have hkb := Lib.hid hkn
      clear hrs hm hkn hre
      replace hA := Lib.hid hA
      by_cases e0 : s.ahead < -1
      · have hf := hbad.out (by unfold stOk; rw [Bool.and_eq_false_iff]; left; simp; omega)
        subst hf
        clear hbad hgood hR
        go_wp2_with fail
        go_ret
        exact ⟨rfl, hb2.out⟩
      · skip
        by_cases e1 : (i : Int) ≤ s.ahead
        · have hf := hbad.out (by unfold stOk; rw [Bool.and_eq_false_iff]; left; simp; omega)
          subst hf
          clear hbad hgood hR
          go_wp2_with fail
          go_ret
          exact ⟨rfl, hb2.out⟩
        · skip
          by_cases e2 : s.step < 0
          · have hf := hbad.out (by unfold stOk; rw [Bool.and_eq_false_iff]; left; simp; omega)
            subst hf
            clear hbad hgood hR
            go_wp2_with fail
            go_ret
            exact ⟨rfl, hb2.out⟩
          · skip
            by_cases e3 : (6 : Int) ≤ s.step
            · have hf := hbad.out (by unfold stOk; rw [Bool.and_eq_false_iff]; left; simp; omega)
              subst hf
              clear hbad hgood hR
              go_wp2_with fail
              go_ret
              exact ⟨rfl, hb2.out⟩
            · skip
              by_cases e4 : s.ahead < 0
              · have e5 : s.ahead = -1 := by omega
                by_cases e6 : s.place = 0
                · have hg := Lib.hid (hgood.out (by unfold stOk behindP; rw [e5]; simp [e6]; omega))
                  have hne : (s.place != 0) = false := by simp [e6]
                  replace e6 := True.intro
                  replace e5 := True.intro
                  clear hbad hgood e5 e6
                  go_wp2_with fail
                  have e7 : decide (0 ≤ s.ahead) = false := by simp; omega
                  go_quiet (fail)
                  have hb3 := Lib.hid (kept_trans hb2.out (drewN_kept _ nq))
                  have hau3 := Lib.hid (hau2.out.later (drewN_kept _ nq))
                  go_wp2_with fail
                  exact ⟨⟨i + 1, by omega, by go_num, hb3, hau3, hg⟩, by simp [intOf]; omega⟩
                · have hf := hbad.out (by unfold stOk behindP; rw [e5]; simp [e6])
                  subst hf
                  have hne : (s.place != 0) = true := by simp [e6]
                  replace e6 := True.intro
                  replace e5 := True.intro
                  clear hbad hgood hR e5 e6
                  go_wp2_with fail
                  go_ret
                  exact ⟨rfl, hb2.out⟩
              · have hn1 : 0 ≤ s.ahead := by omega
                have hn2 : s.ahead < n := by omega
                obtain ⟨⟨s2, gv2⟩, hx2⟩ : ∃ y, L[s.ahead.toNat]? = some y := ⟨_, List.getElem?_eq_getElem (by omega)⟩
                obtain ⟨b', o', e', -, y1, -⟩ := hW.at hx2
                cases e'
                have hA2 : stA (L.map (·.1)) s.ahead.toNat = s2 := stA_of (by simp [hx2])
                have hp2 := hp.out s2 (List.mem_map_of_mem (List.mem_of_getElem? hx2))
                have hok : stOk (L.map (·.1)) i s = decide (s.place = s2.place + 1) := by
                  unfold stOk behindP
                  rw [if_neg (by omega), hA2, decide_eq_true (by omega), Bool.true_and]
                obtain ⟨q2, hq2⟩ : ∃ q, s2.place = q := ⟨_, rfl⟩
                rw [hq2] at y1 hok hp2
                have y1' := bcell hkb.out (World.block_lt_of_cell? wr _ y1) y1
                have hwr : IntKind.wrap .i64 (q2 + 1) = q2 + 1 := by rw [IntKind.wrap_i64]; omega
                by_cases hpe : s.place = q2 + 1
                · have hg := Lib.hid (hgood.out (by rw [hok]; exact decide_eq_true hpe))
                  have hne : (s.place != q2 + 1) = false := by simp [hpe]
                  replace hpe := True.intro
                  clear hbad hgood hpe hok hA2 hq2 hx2 y1 hW hp2
                  go_wp2_with fail
                  have e7 : decide (0 ≤ s.ahead) = true := by simp; omega
                  go_quiet (fail)
                  have hb3 := Lib.hid (kept_trans hb2.out (drewN_kept _ nq))
                  have hau3 := Lib.hid (hau2.out.later (drewN_kept _ nq))
                  go_wp2_with fail
                  exact ⟨⟨i + 1, by omega, by go_num, hb3, hau3, hg⟩, by simp [intOf]; omega⟩
                · have hf := hbad.out (by rw [hok]; exact decide_eq_false hpe)
                  subst hf
                  have hne : (s.place != q2 + 1) = true := by simp [hpe]
                  replace hpe := True.intro
                  clear hbad hgood hpe hok hA2 hq2 hx2 y1 hW hp2 hR
                  go_wp2_with fail
                  have e7 : decide (0 ≤ s.ahead) = true := by simp; omega
                  go_quiet (fail)
                  have hb3 := Lib.hid (kept_trans hb2.out (drewN_kept _ nq))
                  go_wp2_with fail
                  go_ret
                  exact ⟨rfl, hb3.out⟩
    · have hRt : R = true := by rw [← hre.out]; exact restA_end (by simp; omega)
      subst hRt
      clear hR
      have hlti : ¬ (i : Int) < n := by omega
      go_wp2_with fail
      go_ret
      exact ⟨rfl, hb.out⟩
end Go.Proofs.YtccmnngeibpcmaaGreat.Tree
/- nfa.Next. -/
namespace Go.Proofs.YtccmnngeibpcmaaGreat.Tree
open Go.ChangeShapes Go.WideShapes Go.ChangeAt Go.RowKit
set_option linter.unusedVariables false
set_option linter.unusedSimpArgs false
set_option maxRecDepth 100000
attribute [local go_sem] Oper.semAt_some
/-- The states behind a state as nfa.Next tells them. -/
def nextA (ss : List St) (x : Int) : List Int := if rightA ss = true then (thoseL (fun s => s.ahead == x) ss).map (fun j : Nat => (j : Int)) else []
def NxI (w : World) (xs : List Int) (a : Option Addr) (n c g : Nat) (lb : Array Value) (P : Nat) (k : Nat) (W : World) : Prop :=
  ∃ u, Boxed W w.heap.size 28 u ∧ W.ownsRow w.heap.size 3 1 u k (ints (xs.take k)) ∧ W.heap[P]? = some (.cells #[.slice a n c] 27 (0, 0)) ∧ W.heap[P + 1]? = some (.cells #[.func (.func g) #[] lb] 60 (0, 0)) ∧ Below w.heap.size w W
theorem NxI.own (w : World) (xs : List Int) (a : Option Addr) (n c g : Nat) (lb : Array Value) (P : Nat) (D : Nat) (hD : w.heap.size ≤ D) : OwnFrom D (NxI w xs a n c g lb P) := by
  rintro k X Y row ⟨v, h1, h2, h3, h4, h5⟩ hg hrow
  have hrow' : ∀ r, row = some r → ∃ o : Obj, X.heap[r]? = some o ∧ o.isCells = false := fun r e => (hrow r e).2
  refine ⟨v, boxed_own w.heap.size 28 (fun _ : Unit => v) () X Y row h1 hg hrow', row_kept h2 hg (fun r e => ?_), ownFrom_block _ (fun _ : Unit => _) 27 D () X Y row h3 hg hrow, ownFrom_block _ (fun _ : Unit => _) 60 D () X Y row h4 hg hrow, ownFrom_below (Nat.le_refl _) hD k X Y row h5 hg hrow⟩
  obtain ⟨o, ho, hc⟩ := hrow' r e
  exact ⟨o, ho, no_cells hc 3⟩
theorem keepsT_app3 {W w1 : World} {base p k : Nat} {v v' : Value} {us : List Value} {tmp : Obj} (t : TypeId) (ht : t ≠ 3) (ht2 : t ≠ 28) (ho : W.ownsRow base 3 1 v k us) (hgrow : (W.alloc tmp).grownBy w1 v.ownBlock) (hv1 : Boxed w1 p 28 v) : KeepsT t W (w1.setCell ⟨p, 0, none⟩ v') :=
  ((KeepsT.of_below (kept_new W tmp)).trans (KeepsT.grown hgrow (own_is (ho.alloc tmp) t ht))).trans (KeepsT.grown (grownBy_setCell_any w1 p 0 v') (box_is hv1 t ht2))
def NxStep (w W : World) (xs : List Int) (a : Option Addr) (n c g : Nat) (lb : Array Value) (P k : Nat) (v : Value) (x : Int) (D : Nat) : Prop :=
  ∀ (w1 : World) (v' : Value) (tmp : Obj), w1.ownsRow w.heap.size 3 1 v' (k + 1) (ints (xs.take k) ++ [.int .i64 x]) → (W.alloc tmp).grownBy w1 v.ownBlock →
    KeepsFrom D W (w1.setCell ⟨w.heap.size, 0, none⟩ v') ∧ KeepsT 41 W (w1.setCell ⟨w.heap.size, 0, none⟩ v') ∧ NxI w xs a n c g lb P (k + 1) (w1.setCell ⟨w.heap.size, 0, none⟩ v')
theorem NxI.next {w W : World} {xs : List Int} {a : Option Addr} {n c g : Nat} {lb : Array Value} {P k : Nat} {v : Value} {x : Int}
    (hv : Boxed W w.heap.size 28 v) (ho : W.ownsRow w.heap.size 3 1 v k (ints (xs.take k))) (h3 : W.heap[P]? = some (.cells #[.slice a n c] 27 (0, 0))) (h4 : W.heap[P + 1]? = some (.cells #[.func (.func g) #[] lb] 60 (0, 0))) (hB : Below w.heap.size w W)
    (hx : xs[k]? = some x) (D : Nat) : NxStep w W xs a n c g lb P k v x D := by
  intro w1 v' tmp hown' hgrow
  obtain ⟨hv1, hv2, hr2, hk2, hb2⟩ := hv.appended (by decide) ho hB.size (by omega) hown' hgrow
  have key := fun (t : TypeId) (ht : t ≠ 3) (ht2 : t ≠ 28) => keepsT_app3 (v' := v') t ht ht2 ho hgrow hv1
  refine ⟨hk2.from _, key 41 (by decide) (by decide), v', hv2, ?_, key 27 (by decide) (by decide) _ _ _ h3, key 60 (by decide) (by decide) _ _ _ h4, hB.trans hb2⟩
  rw [List.take_add_one, hx]; simpa [ints] using hr2
set_option maxHeartbeats 4000000 in
theorem nextA_V {v av : Value} {L : List (St × Value)} (win x : Int) (hL : L.length ≤ 1000000) (hp : ∀ s ∈ L.map (·.1), -1000000 ≤ s.place ∧ s.place ≤ 1000000) (w : World) (h : StsL w v L) (hav : ∃ a c m, av = .slice a m c) :
    Calls Tryz.prog 19 #[auV v av win, .int .i64 x] w fun e w' => ∃ u, e = .returned u ∧ w'.ownsRow w.heap.size 3 1 u (nextA (L.map (·.1)) x).length (ints (nextA (L.map (·.1)) x)) ∧ Below w.heap.size w w' := by
  obtain ⟨n, hn⟩ : ∃ n, L.length = n := ⟨_, rfl⟩
  obtain ⟨a, c, rfl⟩ := h.lit hn
  obtain ⟨aa, ca, ma, rfl⟩ := hav
  obtain ⟨w1, hw1⟩ : ∃ w1, w.alloc (.cells #[.slice a n c, .slice aa ma ca, .int .i64 win] 30) = w1 := ⟨_, rfl⟩
  obtain ⟨w2, hw2⟩ : ∃ w2, w1.alloc (.cells #[.int .i64 x] 3) = w2 := ⟨_, rfl⟩
  obtain ⟨w3, hw3⟩ : ∃ w3, w2.alloc (.cells #[.slice none 0 0] 28) = w3 := ⟨_, rfl⟩
  have hs1 : w1.heap.size = w.heap.size + 1 := by rw [← hw1]; simp
  have hs2 : w2.heap.size = w.heap.size + 2 := by rw [← hw2]; simp [hs1]
  have hs3 : w3.heap.size = w.heap.size + 3 := by rw [← hw3]; simp [hs2]
  have hb1 : Below w.heap.size w w1 := by rw [← hw1]; exact kept_new _ _
  have hb2 : Below w1.heap.size w1 w2 := by rw [← hw2]; exact kept_new _ _
  have hb3 : Below w2.heap.size w2 w3 := by rw [← hw3]; exact kept_new _ _
  have hpt : AuBox w.heap.size (.slice a n c) (.slice aa ma ca) win w1 := by rw [← hw1]; exact AuBox.new _ _ _ _
  have hxb : w2.heap[w.heap.size + 1]? = some (.cells #[.int .i64 x] 3 (0, 0)) := by rw [← hw2, ← hs1]; exact heap_alloc_new w1 _
  have hbx : Boxed w3 w2.heap.size 28 (.slice none 0 0) := by rw [← hw3]; exact Boxed.new w2 28 _
  have hB02 := Lib.hid (kept_trans hb1 hb2)
  have hB03 := kept_trans (kept_trans hb1 hb2) hb3
  have hpt3 := (hpt.later hb2).later hb3
  have c0 := hpt3.c0
  have c1 := hpt3.c1
  have c2 := hpt3.c2
  have hRi := Lib.hid (rightS_V (av := .slice aa ma ca) win hL hp _ (h.later hB03))
  obtain ⟨R, hR⟩ : ∃ R, rightA (L.map (·.1)) = R := ⟨_, rfl⟩
  rw [hR] at hRi
  rw [hn] at hL
  obtain ⟨RES, hRES⟩ : ∃ r, nextA (L.map (·.1)) x = r := ⟨_, rfl⟩
  rw [hRES]
  have hrs : RES = if R = true then (thoseL (fun s => s.ahead == x) (L.map (·.1))).map (fun j : Nat => (j : Int)) else [] := by rw [← hRES, ← hR]; rfl
  replace h := Lib.hid h
  refine (callsIn_wide (n := 9)).1 ?_
  refine callsIn_of_wp_marks Tryz.func19 rfl trivial ?_ rfl
  rw [wpIn_wide]
  simp only [Tryz.ntmps19, List.size_toArray, List.length_cons, List.length_nil, Nat.reduceAdd, Nat.reduceSub, Array.replicate_succ, Array.replicate_zero, List.push_toArray, List.append_toArray, List.nil_append, List.cons_append]
  go_wp2_with fail
  refine wp_scope_jumps 0 (fun a' W => RES = [] ∧ Below w.heap.size w W ∧ a'.defers = [] ∧ ∃ (u0 u1 u2 u3 u4 u5 u6 u7 u8 u9 u10 u11 u12 u13 u14 u15 u16 u17 u18 u19 : Value), a'.tmps = #[u0, u1, u2, u3, u4, u5, u6, u7, u8, u9, u10, u11, u12, u13, u14, u15, u16, u17, u18, u19]) (fun _ _ => 0) rfl ?_ ?_
  · cases R with
    | false =>
      have hr : Hid (RES = []) := Lib.hid (by rw [hrs, if_neg (by simp)])
      clear hrs hRES hR hpt hpt3 hxb hbx hs1 hs2 hs3 hb1 hb2 hb3 hp hn
      replace hB03 := Lib.hid hB03
      go_wp2_with ((with_reducible refine hRi.out.mono ?_); rintro e w4 ⟨rfl, hb4⟩)
      refine wp_goto ?_
      exact ⟨rfl, hr.out, kept_trans hB03.out hb4, rfl, _, _, _, _, _, _, _, _, _, _, _, _, _, _, _, _, _, _, _, _, rfl⟩
    | true =>
      have hr : RES = (thoseL (fun s => s.ahead == x) (L.map (·.1))).map (fun j : Nat => (j : Int)) := by rw [hrs, if_pos rfl]
      replace hr := Lib.hid hr
      clear hrs hRES
      go_upto_region 3 with ((with_reducible refine hRi.out.mono ?_); rintro e w4 ⟨rfl, hb4⟩)
      have hB4 := kept_trans hB03 hb4
      have hbx4 := boxed_later hbx hb4
      have hxb4 := (hb4.block _ (by omega)).trans ((hb3.block _ (by omega)).trans hxb)
      have hB24 := kept_trans hb3 hb4
      have d0 := (hpt3.later hb4).c0
      have hs4 : w2.heap.size + 1 ≤ w4.heap.size := by have := hb4.size; omega
      obtain ⟨w5, hw5⟩ : ∃ w5, w4.alloc (.cells #[.slice a n c] 27) = w5 := ⟨_, rfl⟩
      obtain ⟨W8, hw8⟩ : ∃ W8, w5.alloc (.cells #[.func (.func 35) #[] #[ptr (w.heap.size + 1)]] 60) = W8 := ⟨_, rfl⟩
      obtain ⟨P, hP⟩ : ∃ P, w4.heap.size = P := ⟨_, rfl⟩
      have hs5 : w5.heap.size = P + 1 := by rw [← hw5, ← hP]; simp
      have hs8 : W8.heap.size = P + 2 := by rw [← hw8]; simp [hs5]
      have hb5 : Below w4.heap.size w4 w5 := by rw [← hw5]; exact kept_new _ _
      have hb8 : Below w5.heap.size w5 W8 := by rw [← hw8]; exact kept_new _ _
      have hb48 := kept_trans hb5 hb8
      have hB8 := kept_trans hB4 hb48
      have hI0 : NxI w2 RES a n c 35 #[ptr (w.heap.size + 1)] P 0 W8 := by
        refine ⟨.slice none 0 0, boxed_later hbx4 hb48, by simpa using World.ownsRow_nil _ _ _ _, ?_, ?_, kept_trans hB24 hb48⟩
        · have := heap_alloc_new w4 (.cells #[.slice a n c] 27)
          rw [hw5, hP] at this
          exact (hb8.block _ (by omega)).trans this
        · have := heap_alloc_new w5 (.cells #[.func (.func 35) #[] #[ptr (w.heap.size + 1)]] 60)
          rw [hw8, hs5] at this
          exact this
      have hth := those_any a n c 35 #[ptr (w.heap.size + 1)] w4
      rw [hw5, hw8, hP] at hth
      replace hth := Lib.hid hth
      clear hR hpt hpt3 hbx hbx4 hs1 hs3 hb1 hb3 hb4 hB03 hB4 hB24 hb5 hb8 hb48 hw5 hw8 hRi c0 c1 c2 hw3 hw2 hw1 hxb4
      go_wp2_with ((with_reducible refine hth.out.mono ?_); rintro e w8 ⟨rfl, rfl⟩)
      refine (wpIn_wide (n := 9)).1 ?_
      clear d0 hth
      obtain ⟨i0, hi, hz0, hz1, hz2⟩ := info_parts Tryz.info3
      replace hi := Lib.hid hi
      refine wpIn_rangeFunc_rowT rfl (by omega) (gf := 52) (lb := #[ptr P, ptr (P + 1)]) rfl trivial (enters_of Tryz.func52 (by kernel_rfl) rfl)
        (those35 8 P 41 (w.heap.size + 1) x (by omega) a n c L (by omega) w8) (Below.refl _ _) (fun k hk => thRow_size hk)
        (NxI w2 RES a n c 35 #[ptr (w.heap.size + 1)] P) (fun _ _ => False) (NxI.own w2 _ _ _ _ _ _ _ _ (by omega)) (fun k X Y r h => h.elim)
        ?kp (fun _ _ h => h.elim)
        hI0
        (fun k a' W => ∃ j : Nat, (thoseL (fun s => s.ahead == x) (L.map (·.1)))[k]? = some j ∧
          a' = { tmps := #[auV (.slice a n c) (.slice aa ma ca) win, .int .i64 x, ptr w.heap.size, ptr (w.heap.size + 1), .slice none 0 0, ptr (w.heap.size + 2), .int .i64 j, auV (.slice a n c) (.slice aa ma ca) win, .bool true, .bool false, ptr w.heap.size, .slice a n c, .func (.func 35) #[] #[ptr (w.heap.size + 1)], .func (.func 52) #[] #[ptr P, ptr (P + 1)], .int .i64 j, undef, undef, undef, undef, undef], defers := [] })
        ?ax ?assign ?body ?done ?stop
      case kp =>
        rintro k W ⟨u, -, -, h3, h4, hB⟩
        exact ⟨⟨h3, hn, h.out.later (kept_trans hB02.out hB)⟩, h4, (hB.block _ (by omega)).trans hxb⟩
      case ax =>
        rintro k a' ⟨⟩ X Y row ⟨j, h1, h2⟩ hg hrow
        exact ⟨j, h1, h2⟩
      case assign =>
        intro l k W K hk hI hK
        rw [thRow_len] at hk
        obtain ⟨j, hx⟩ : ∃ y, (thoseL (fun s => s.ahead == x) (L.map (·.1)))[k]? = some y := ⟨_, List.getElem?_eq_getElem hk⟩
        rw [thRow_at hx]
        gi_wp2
        exact hK _ _ (KeepsFrom.refl _ _) (KeepsT.refl _ _) hI ⟨j, hx, rfl⟩
      case body =>
        rintro l k a' W hk ⟨v, hv, ho, h3, h4, hB⟩ ⟨j, hx, rfl⟩
        rw [thRow_len] at hk
        have hkl : k ≤ 1000000 := by have := those_few (fun s => s.ahead == x) (L.map (·.1)); simp only [List.length_map] at this; omega
        have H := NxI.next hv ho h3 h4 hB (x := (j : Int)) (by rw [hr.out]; simp [hx]) w8.heap.size
        unfold NxStep at H
        rw [hs2] at H hv ho
        have hcv := hv.cell
        have hfv := hv.frozen
        have hsz : Hid (w.heap.size + 2 ≤ W.heap.size) := Lib.hid (by have := hB.size; omega)
        replace hv := Lib.hid hv
        replace ho := Lib.hid ho
        replace H := Lib.hid H
        clear h3 h4 hB hx h hI0 hr hxb hB8 hB02
        gi_wp2_with (gi_at_builtin; refine wpListIn_append_own _ rfl _ _ 28 rfl (w.heap.size + 2) 3 i0 (.int .i64 0) 1 8 Tryz.underlying28 hi.out hz0 hz1 hz2 rfl (by decide) _ _ _ rfl (ho.out.alloc _) ⟨W.heap.size, 0, none⟩ 1 1 [.int .i64 j] rfl rfl (cell_one_new _ _ _) (by simp [Value.oneCell']) (by unfold maxLen; omega) (by omega) (by have := hsz.out; simp; omega) ?_; intro v' w1 hown' hgrow _; have hvv := hv.out.appended (by decide) ho.out hsz.out (by omega) hown' hgrow; have hcv1 := hvv.1.cell; have hfv1 := hvv.1.frozen; clear hvv; obtain ⟨g', cap', rfl⟩ := ownsRow_succ hown')
        exact H.out _ _ _ hown' hgrow
      case done =>
        rintro D W hD ⟨v, hv, ho, h3, h4, hB⟩ hK
        rw [thRow_len] at ho
        have hl : (thoseL (fun s => s.ahead == x) (L.map (·.1))).length = RES.length := by rw [hr.out]; simp
        rw [hl, List.take_length] at ho
        rw [hs2] at hv ho
        have hcv := hv.cell
        have hDw : w.heap.size ≤ D := by omega
        have hBW := Lib.hid (kept_trans hB02.out hB)
        clear h3 h4 hB h hI0 hxb hB8
        go_wp2
        rw [jump_ret]
        refine ⟨by simp, .inl ⟨_, _, rfl, run_takeDeferred hK, ?_⟩⟩
        exact ⟨_, results_tmp rfl _ _ _, v, rfl, ownsRow_putObj (row_base ho (by omega)) _ hK rfl, hBW.out.trans (belowK_b (w := w) (Nat.le_refl _) W D _ (.deferred none) hDw hK rfl rfl)⟩
      case stop => exact fun _ _ _ _ h => h.elim
  · rintro ⟨t, d⟩ w9 ⟨hr, hB, hd, u0, u1, u2, u3, u4, u5, u6, u7, u8, u9, u10, u11, u12, u13, u14, u15, u16, u17, u18, u19, he⟩
    dsimp only at he hd
    subst he hd
    clear hrs hRES c0 c1 c2
    subst hr
    go_wp2
    rw [jump_ret]
    exact ⟨_, results_tmp rfl _ _ _, .slice none 0 0, rfl, World.ownsRow_nil _ _ _ _, hB⟩
end Go.Proofs.YtccmnngeibpcmaaGreat.Tree
/- The law's among; slices.Equal of rows of numbers. -/
namespace Go.Proofs.YtccmnngeibpcmaaGreat.Tree
open Go.ChangeShapes Go.WideShapes Go.ChangeAt Go.RowKit
set_option linter.unusedVariables false
set_option linter.unusedSimpArgs false
set_option maxRecDepth 100000
attribute [local go_sem] Oper.semAt_some
theorem mem_take_next {l : List Int} {i : Nat} {x y : Int} (hy : l[i]? = some y) (h : x ∉ l.take i) (hne : y ≠ x) : x ∉ l.take (i + 1) := by
  rw [List.take_add_one, hy]
  simp only [Option.toList_some, List.mem_append, List.mem_singleton, not_or]
  exact ⟨h, fun e => hne e.symm⟩
set_option maxHeartbeats 1000000 in
theorem among_any {v : Value} {l : List Int} (x : Int) (hl : l.length ≤ 1000000) (w : World) (h : NmsAt w v l) :
    Calls Tryz.prog 15 #[v, .int .i64 x] w fun e w' => e = .returned (.bool (decide (x ∈ l))) ∧ w' = w := by
  obtain ⟨n, hn⟩ : ∃ n, l.length = n := ⟨_, rfl⟩
  obtain ⟨a, c, rfl, hc⟩ := h
  obtain ⟨R, hR⟩ : ∃ R, decide (x ∈ l) = R := ⟨_, rfl⟩
  rw [hR]
  rw [hn] at hl ⊢
  replace hR := Lib.hid hR
  go_enter Tryz.func15, Tryz.ntmps15
  go_wp2_with fail
  go_loopw [5] (fun t wr => ∃ i : Nat, i ≤ n ∧ t = .int .i64 i ∧ wr = w ∧ Hid (x ∉ l.take i)) (fun t _ => n - (intOf t).toNat)
  case atStart => exact ⟨0, Nat.zero_le _, rfl, rfl, Lib.hid (by simp)⟩
  case round =>
    obtain ⟨i, hi, rfl, rfl, hno⟩ := hrel
    by_cases hlt : i < n
    · have hlti : (i : Int) < n := by omega
      obtain ⟨y, hy⟩ : ∃ y, l[i]? = some y := ⟨_, List.getElem?_eq_getElem (by omega)⟩
      obtain ⟨b, o, rfl, z0⟩ := ints_look hc hy
      by_cases hB : y = x
      · have hRt : R = true := by rw [← hR.out, decide_eq_true_iff]; exact hB ▸ List.mem_of_getElem? hy
        subst hRt
        subst hB
        clear hR hy
        go_wp2_with fail
        go_ret
        exact ⟨rfl, rfl⟩
      · have hne : (y == x) = false := by simpa using hB
        have hnx := Lib.hid (mem_take_next hy hno.out hB)
        clear hy
        replace hB := True.intro
        clear hB
        go_wp2_with fail
        exact ⟨⟨i + 1, by omega, by go_num, trivial, hnx⟩, by simp [intOf]; omega⟩
    · have hRf : R = false := by
        have e : i = n := by omega
        have h2 := hno.out
        rw [e, ← hn, List.take_length] at h2
        rw [← hR.out]
        exact decide_eq_false h2
      subst hRf
      clear hR
      have hlti : ¬ (i : Int) < n := by omega
      go_wp2_with fail
      go_ret
      exact ⟨rfl, rfl⟩
set_option maxRecDepth 100000 in
set_option maxHeartbeats 1000000 in
theorem equal_dr (a1 a2 : Option Addr) (n m c1 c2 : Nat) (l k : List Int) (R : Bool) (w : World) (hR : Hid (decide (l = k) = R)) (hn : Hid (l.length = n)) (hm : Hid (k.length = m)) (hs : n ≤ 140737488351232) (h1 : Hid (IntsAt w (.slice a1 n c1) l)) (h2 : Hid (IntsAt w (.slice a2 m c2) k)) :
    Calls Tryz.prog 36 #[.slice a1 n c1, .slice a2 m c2] w fun e w' => e = .returned (.bool R) ∧ ∃ m, w' = w.drewN m := by
  by_cases hnm : n = m
  · subst hnm
    go_enter Tryz.func36, Tryz.ntmps36
    go_wp2_with fail
    have hd := Lib.hid (fun m => drewN_kept w m)
    have hd2 := Lib.hid (fun m k => kept_trans (drewN_kept w m) (drewN_kept _ k))
    go_loopw [13] (fun t wr => ∃ i : Nat, i ≤ n ∧ t = .int .i64 i ∧ (∃ m, wr = w.drewN m) ∧ Hid (∀ j, j < i → l[j]? = k[j]?)) (fun t _ => n - (intOf t).toNat)
    case atStart => exact ⟨0, Nat.zero_le _, rfl, ⟨0, rfl⟩, fun j hj => by omega⟩
    case round =>
      obtain ⟨i, hi, rfl, ⟨m, rfl⟩, hall⟩ := hrel
      by_cases hlt : i < n
      · obtain ⟨x, hx⟩ : ∃ x, l[i]? = some x := ⟨_, List.getElem?_eq_getElem (by rw [hn.out]; exact hlt)⟩
        obtain ⟨y, hy⟩ : ∃ y, k[i]? = some y := ⟨_, List.getElem?_eq_getElem (by rw [hm.out]; exact hlt)⟩
        obtain ⟨p1, o1, rfl, x0⟩ := (h1.out.later (drewN_kept w m)).at hn.out hx
        obtain ⟨p2, o2, rfl, y0⟩ := (h2.out.later (drewN_kept w m)).at hm.out hy
        have x0' : w.cell? ⟨p1, o1 + i, none⟩ = some (.int .i64 x) := x0
        have y0' : w.cell? ⟨p2, o2 + i, none⟩ = some (.int .i64 y) := y0
        have hlti : (i : Int) < n := by omega
        have hne := Lib.hid (neq_at hx hy)
        have hat := Lib.hid (at_eq hx hy)
        clear hx hy
        by_cases hB : x = y
        · replace hat := Lib.hid (hat.out hB)
          subst hB
          go_wp2_with fail
          go_quiet (fail)
          go_wp2_with fail
          exact ⟨⟨i + 1, by omega, by go_num, ⟨m + nq, by simp [World.drewN, Nat.add_assoc]⟩, all_succ hall.out hat.out⟩, by simp [intOf]; omega⟩
        · have hRf : R = false := by rw [← hR.out]; simp; exact hne.out hB
          subst hRf
          clear hR
          have hBb : (x == y) = false := by simpa using hB
          go_wp2_with fail
          go_quiet (fail)
          go_wp2_with fail
          go_ret
          exact ⟨rfl, m + nq, by simp [World.drewN, Nat.add_assoc]⟩
      · have hRt : R = true := by rw [← hR.out]; simp; exact eq_all hn.out hm.out (i := i) (by omega) hall.out
        subst hRt
        clear hR
        have hlti : ¬ (i : Int) < n := by omega
        go_wp2_with fail
        go_ret
        exact ⟨rfl, m, rfl⟩
  · have hRf : R = false := by rw [← hR.out]; simp; intro e; exact hnm (hn.out.symm.trans ((congrArg List.length e).trans hm.out))
    subst hRf
    clear hR
    have hnmi : ¬ (n : Int) = m := by omega
    have hb : ((n : Int) == m) = false := by simpa using hnmi
    go_enter Tryz.func36, Tryz.ntmps36
    go_wp2_with fail
    go_ret
    exact ⟨rfl, 0, rfl⟩
end Go.Proofs.YtccmnngeibpcmaaGreat.Tree
