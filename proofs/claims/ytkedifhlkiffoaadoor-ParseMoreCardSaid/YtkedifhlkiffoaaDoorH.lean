/-
  Contract of num.Text at every whole number of 64 bits: its digits, - ahead of a number below 0.
-/
import Derived.Test.YtkedifhlkiffoaaDoorG
import Derived.Laws.BytesArg
namespace Go.Proofs.YtkedifhlkiffoaaDoor
open Go.ChangeShapes Go.WideShapes Go.ChangeAt Go.RowKit
set_option linter.unusedVariables false
attribute [local go_sem] Oper.semAt_some
set_option maxHeartbeats 400000 in
theorem low_any (a : Int) (w : World) :
    Calls Tryd.prog 98 #[.int .i64 a] w fun e w' => e = .returned (.func (.func 114) #[] #[.pointer (some ⟨w.heap.size, 0, none⟩)]) ∧ w' = w.alloc (.cells #[.int .i64 a] 3) := by
  go_enter Tryd.func98, Tryd.ntmps98
  go_wp2
  go_ret
  exact ⟨rfl, rfl⟩
theorem low_stops (n : Nat) (hn : 1 ≤ n) (B : Nat) (a : Int) (w : World) (hB : B < w.heap.size) (hc : w.cell? ⟨B, 0, none⟩ = some (.int .i64 a)) (hfa : fits a = true) :
    SeqStopsK Fence.wide n Tryd.prog 114 #[.pointer (some ⟨B, 0, none⟩)] (fun x : Int => #[Value.int .u8 x]) KeepsWalks (fun ys => ys = lowN a.natAbs) (fun _ => True) 20 w := fun l J Jx W hW _ _ hY h0 => by
  rw [fits_iff] at hfa
  exact low1_in Fence.wide n trivial rfl hn l B a 20 (lowN_len 19 _ (by omega)) hfa.1 hfa.2 J Jx hY W ((hW.cell (p := ⟨B, 0, none⟩) hB).trans hc) h0
/-- The bytes of a number's text. -/
def textZ (a : Int) : List Int := (lowN a.natAbs ++ (if a < 0 then [45] else [])).reverse
theorem row_ne {B D : Nat} {W2 : World} {g c n : Nat} {zs : List Value} {o : Option (List Deferred)} (h1 : W2.heap[D]? = some (.deferred o)) (h2 : W2.ownsRow B 5 1 (.slice (some ⟨g, 0, none⟩) n c) n zs) : some D ≠ some g := by
  intro e
  cases e
  rcases h2.2 with ⟨h, _⟩ | ⟨g', _, cur, h, _, hgb, _⟩
  · cases h
  · cases h; rw [h1] at hgb; cases hgb
theorem row_base {B j : Nat} {W2 : World} {g c n : Nat} {zs : List Value} (h2 : W2.ownsRow B 5 1 (.slice (some ⟨g, 0, none⟩) n c) n zs) (e : some g = some j) : B ≤ j := by
  cases e
  rcases h2.2 with ⟨h, _⟩ | ⟨g', _, cur, h, hb, _, _⟩
  · cases h
  · cases h; exact hb
theorem lowN_pos (m : Nat) : ∃ k, (lowN m).length = k + 1 := by
  rw [lowN]; split <;> simp
theorem rev_n (g cap base : Nat) (xs : List Int) (w : World) (hl : xs.length ≤ 1000) {n : Nat} (hn : n = xs.length) (hr : w.ownsRow base 5 1 (.slice (some ⟨g, 0, none⟩) n cap) xs.length (U xs)) :
    Calls Tryd.prog 99 #[.slice (some ⟨g, 0, none⟩) n cap] w fun e w' => e = .returned (.tuple #[]) ∧
      w'.ownsRow base 5 1 (.slice (some ⟨g, 0, none⟩) n cap) n (U xs.reverse) ∧ w.grownBy w' (some g) := by
  subst hn; exact rev_any g cap base xs w hl hr
theorem conv_row {base g n cap : Nat} {zs : List Int} {w : World} (h : w.ownsRow base 5 1 (.slice (some ⟨g, 0, none⟩) n cap) n (U zs)) (hn : zs.length = n) :
    (convert 42 9 (.slice (some ⟨g, 0, none⟩) n cap)).run Tryd.prog w = .ok (.string (strOfNums zs)) w :=
  run_convert_bytes_arg w 42 5 Tryd.underlying42 Tryd.underlying5 g 0 n cap zs hn (fun i hi => by
    have := h.cellAt i (by omega)
    rw [Nat.zero_add, this]
    simp [show i < zs.length by omega]) 9 Tryd.underlying9
set_option maxRecDepth 100000 in
set_option maxHeartbeats 2000000 in
theorem text_any (a : Int) (w : World) (hfa : fits a = true) :
    Calls Tryd.prog 81 #[.int .i64 a] w fun e w' => e = .returned (.string (strOfNums (textZ a))) ∧ Below w.heap.size w w' := by
  obtain ⟨i0, hi, hz0, hz1, hz2⟩ := info_parts Tryd.info5
  refine (callsIn_wide (n := 3)).1 ?_
  refine callsIn_of_wp_marks Tryd.func81 rfl trivial ?_ rfl
  rw [wpIn_wide]
  simp only [Tryd.ntmps81, List.size_toArray, List.length_cons, List.length_nil, Nat.reduceAdd, Nat.reduceSub, Array.replicate_succ, Array.replicate_zero, List.push_toArray, List.append_toArray, List.nil_append, List.cons_append]
  have hi := Lib.hid hi
  have bO := Boxed.new w 42 (.slice none 0 0)
  go_wp2_with ((with_reducible refine (low_any _ _).mono ?_); rintro e w' ⟨rfl, rfl⟩)
  have bN := Boxed.new (w.alloc (.cells #[.slice none 0 0] 42)) 3 (.int .i64 a)
  rw [World.size_alloc] at bN
  have hB0 : Below w.heap.size w ((w.alloc (.cells #[.slice none 0 0] 42)).alloc (.cells #[.int .i64 a] 3)) := ((Below.refl _ w).alloc (Nat.le_refl _) _).alloc (by simp) _
  refine (wpIn_wide (n := 3)).1 ?_
  refine wpIn_rangeFunc_ownF rfl (by omega) (gf := 114) (lb := #[.pointer (some ⟨w.heap.size + 1, 0, none⟩)]) rfl trivial (enters_of Tryd.func114 (by kernel_rfl) rfl)
    (low_stops 2 (by omega) (w.heap.size + 1) a _ (by simp) bN.cell hfa) walksK_t walksK_b (Below.refl _ _) (fun _ => rfl)
    (fun pre W => (∃ v, Boxed W w.heap.size 42 v ∧ W.ownsRow w.heap.size 5 1 v pre.length (U pre) ∧ True) ∧ Below w.heap.size w W)
    (fun _ _ _ => False)
    (OwnFrom.and (Own.from (holdsRow_own w.heap.size w.heap.size 42 5 1 (fun pre => pre.length) (fun pre => U pre) (fun pre v => True)) _) (ownFrom_below (Nat.le_refl _) (by simp; omega)))
    (fun _ _ _ _ _ hs _ _ => hs)
    ⟨⟨_, bO.alloc _, World.ownsRow_nil _ _ _ _, trivial⟩, hB0⟩
    (fun x => { tmps := #[.int .i64 a, undef, .string ⟨#[]⟩, .pointer (some ⟨w.heap.size, 0, none⟩), .int .u8 x, .int .i64 a, .func (.func 114) #[] #[.pointer (some ⟨w.heap.size + 1, 0, none⟩)], .int .u8 x, undef, undef, undef, undef, undef, undef, undef, undef, undef, undef, undef, undef, undef], defers := [] }) ?assign ?body ?done ?stop
  case assign =>
    intro l x W K hK
    gi_wp2
    exact hK
  case body =>
    rintro l pre x W ⟨⟨v, hv, hrow, _⟩, hB⟩ hlt
    have hc := hv.cell
    gi_wp2_with (gi_at_builtin; refine wpListIn_append_own _ rfl _ _ 42 rfl w.heap.size 5 i0 (.int .u8 0) 1 1 Tryd.underlying42 hi.out hz0 hz1 hz2 rfl (by decide) _ _ _ rfl (hrow.alloc _) ⟨W.heap.size, 0, none⟩ 1 1 [.int .u8 x] rfl rfl (cell_one_new _ _ _) (by simp [Value.oneCell']) (by unfold maxLen; omega) (by omega) (by have := hB.size; simp; omega) ?_; intro v' w1 hown' hgrow _; obtain ⟨g', cap', rfl⟩ := ownsRow_succ hown'; obtain ⟨hv1, hv2, hr2, hk2, hb2⟩ := hv.appended (by decide) hrow hB.size (Nat.le_refl _) hown' hgrow; have hc1 := hv1.cell; have hf1 := hv1.frozen)
    exact ⟨hk2, hk2.walks, ⟨_, hv2, by simpa using hr2, trivial⟩, hB.trans hb2⟩
  case done =>
    rintro D ys W hD rfl ⟨⟨v, hv, hrow, _⟩, hB⟩ hK
    obtain ⟨k, hk⟩ : ∃ k, (lowN a.natAbs).length = k + 1 := lowN_pos _
    have hl20 : (lowN a.natAbs).length ≤ 20 := by rw [fits_iff] at hfa; exact lowN_len 19 _ (by omega)
    have hrow' := hrow
    rw [hk] at hrow'
    obtain ⟨g, cap, rfl⟩ := ownsRow_succ hrow'
    have HT := Lib.hid (show textZ a = (lowN a.natAbs ++ (if a < 0 then [45] else [])).reverse from rfl)
    have hN := Lib.hid hk
    clear hrow'
    generalize lowN a.natAbs = ys at *
    clear hk
    have hc := hv.cell
    by_cases hneg : a < 0
    · rw [if_pos hneg] at HT
      have hsz := hB.size
      go_wp2_with (first | (at_builtin; refine wpList_append_own _ rfl _ _ 42 rfl w.heap.size 5 i0 (.int .u8 0) 1 1 Tryd.underlying42 hi.out hz0 hz1 hz2 rfl (by decide) _ _ _ rfl (hrow.alloc _) ⟨W.heap.size, 0, none⟩ 1 1 [.int .u8 45] rfl rfl (cell_one_new _ _ _) (by simp [Value.oneCell']) (by unfold maxLen; omega) (by omega) (by simp; omega) ?_; intro v' w1 hown' hgrow _; obtain ⟨g', cap', rfl⟩ := ownsRow_succ hown'; obtain ⟨hv1, hv2, hr2, hk2, hb2⟩ := hv.appended (by decide) hrow hB.size (Nat.le_refl _) hown' hgrow; have hc1 := hv1.cell; have hf1 := hv1.frozen; have hc2 := hv2.cell; have hK2 := hk2.same D _ hK rfl; clear hv hrow hK hc hgrow hown' hv1) | (go_at_call 99; refine (rev_n _ _ w.heap.size (ys ++ [45]) _ (by simp; omega) (by simp) (by simpa using hr2)).mono ?_; rintro e w3 ⟨rfl, hr3, hg3⟩; have hv3 := hv2.kept hg3 (hv2.not_row (by decide) hr2); have hc3 := hv3.cell; have hconv := conv_row hr3 (by simp)))
      refine ⟨by simp, .inl ⟨_, _, rfl, run_takeDeferred ((hg3.block D (Array.getElem?_eq_some_iff.1 hK2).1 (row_ne hK2 hr2)).trans hK2), ?_⟩⟩
      refine ⟨_, results_tmp rfl _ _ _, by rw [HT.out, List.reverse_append]; rfl, ?_⟩
      have hb3 := (hB.trans hb2).grown hg3 (by have := hb2.size; omega) (fun j e => row_base hr2 e)
      refine hb3.trans (belowK_b (w := w) (Nat.le_refl _) w3 D _ _ (by simp at hD; omega) ((hg3.block D (Array.getElem?_eq_some_iff.1 hK2).1 (row_ne hK2 hr2)).trans hK2) rfl rfl)
    · rw [if_neg hneg, List.append_nil] at HT
      go_wp2_with (go_at_call 99; refine (rev_n _ _ w.heap.size ys _ (by omega) hN.out.symm hrow).mono ?_; rintro e w3 ⟨rfl, hr3, hg3⟩; have hv3 := hv.kept hg3 (hv.not_row (by decide) hrow); have hc3 := hv3.cell; have hconv := conv_row hr3 (by simp [hN.out]))
      rw [hN.out] at hrow
      have hK3 := (hg3.block D (Array.getElem?_eq_some_iff.1 hK).1 (row_ne hK hrow)).trans hK
      refine ⟨by simp, .inl ⟨_, _, rfl, run_takeDeferred hK3, ?_⟩⟩
      refine ⟨_, results_tmp rfl _ _ _, by rw [HT.out]; rfl, ?_⟩
      exact (hB.grown hg3 hB.size (fun j e => row_base hrow e)).trans (belowK_b (w := w) (Nat.le_refl _) w3 D _ _ (by simp at hD; omega) hK3 rfl rfl)
  case stop =>
    rintro D c pre W _ _ h _
    exact h.elim
end Go.Proofs.YtkedifhlkiffoaaDoor
