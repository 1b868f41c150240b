/-
  NumSums of stage 1, at every input: the law's call returns true, for every slice of whole numbers and every place where it is parted; no condition.
-/
import Derived.Test.YtiekaiaekokepaaQ
namespace Go.Proofs.Ytiekaiaekokepaa.numSums
open Go.ChangeShapes Go.WideShapes Go.ChangeAt Go.RowKit
set_option linter.unusedVariables false
theorem own : ownKnob Try.prog.godebug = none := by kernel_rfl
theorem laidOut : laidOutB Try.prog = true := by kernel_rfl
set_option maxRecDepth 100000 in
set_option maxHeartbeats 2000000 in
theorem sums_long (a : Option Addr) (n cap : Nat) (at_ : Int) (w : World) (h : 60 < n) (hn : n ≤ maxLen) :
    Calls Try.prog 6 #[.slice a n cap, .int .i64 at_] w fun e w' => e = .returned (.bool true) ∧ Below w.heap.size w w' := by
  have h60 : decide ((60 : Int) < n) = true := by simp; omega
  unfold maxLen at hn
  go_enter Try.func6, Try.ntmps6
  go_wp2_with fail
  (with_reducible refine (wakes_any _).mono ?_)
  rintro e w' ⟨rfl, hbl⟩
  go_wp2
  go_ret
  exact ⟨rfl, hbl⟩
theorem sum_nil (a : Option Addr) (cap : Nat) (w : World) : Calls Try.prog 13 #[.slice a 0 cap] w fun e w' => e = .returned (.tuple #[.int .i64 0, .int .i64 0]) ∧ w = w' :=
  sum_n a 0 cap [] w 0 0 rfl (.inl rfl) (by simp) (by simp) rfl rfl
set_option maxRecDepth 100000 in
set_option maxHeartbeats 2000000 in
theorem sums_empty (x : Addr) (cap : Nat) (at_ : Int) (w : World) :
    Calls Try.prog 6 #[.slice (some x) 0 cap, .int .i64 at_] w fun e w' => e = .returned (.bool true) ∧ Below w.heap.size w w' := by
  obtain ⟨i0, hi, hz0, hz1, hz2⟩ := info_parts Try.info3
  have hi := Lib.hid hi
  have hlit : (w.alloc (.cells #[.int .i64 0] 3)).ownsRow w.heap.size 3 1 (.slice (some ⟨w.heap.size, 0, none⟩) 1 1) 1 [.int .i64 0] :=
    ⟨rfl, .inr ⟨_, _, _, rfl, Nat.le_refl _, World.alloc_heap_new w _, Nat.le_refl _, by decide, rfl, rfl⟩⟩
  rcases Int.lt_trichotomy at_ 0 with h | rfl | h
  all_goals
    go_enter Try.func6, Try.ntmps6
    go_wp2_with fail
    (with_reducible refine (sum_nil _ _ _).mono ?_)
    rintro e w' ⟨rfl, rfl⟩
    go_wp2_with fail
    (with_reducible refine (sum_nil _ _ _).mono ?_)
    rintro e w' ⟨rfl, rfl⟩
    go_wp2_with (at_builtin; refine wpList_append_own _ rfl _ _ 22 rfl w.heap.size 3 i0 (.int .i64 0) 1 8 Try.underlying22 hi.out hz0 hz1 hz2 rfl (by decide) _ _ _ rfl hlit x 0 cap [] rfl rfl (by intro j u hu; simp at hu) (by simp) (by decide) (by decide) (by simp) ?_; intro v' w1 hown' hgrow _)
    obtain ⟨g', cap', rfl⟩ := ownsRow_succ hown'
    have hown2 : w1.ownsRow w.heap.size 3 1 (.slice (some ⟨g', 0, none⟩) 1 cap') 1 (([0] : List Int).map (Value.int .i64)) := by simpa using hown'
    have hS3 := Lib.hid (sum_n _ 1 cap' [0] w1 0 0 rfl (ints_of_row3 hown2 rfl) (by simp) (by simp; decide) (by decide) (by decide))
    have hbl0 : Below w.heap.size w w1 := ((Below.refl w.heap.size w).alloc (Nat.le_refl _) _).grown hgrow (by simp) (fun j e => by cases e; exact Nat.le_refl _)
    clear hown' hown2 hgrow hlit
    (with_reducible refine hS3.out.mono ?_)
    rintro e w' ⟨rfl, rfl⟩
    clear hS3
    go_wp2_with fail
    (with_reducible refine (sum_nil _ _ _).mono ?_)
    rintro e w' ⟨rfl, rfl⟩
    go_wp2_with fail
    (with_reducible refine (wakes_any _).mono ?_)
    rintro e w' ⟨rfl, hbl⟩
    go_wp2
    go_ret
    exact ⟨rfl, hbl0.trans (hbl.mono hbl0.size)⟩
set_option maxRecDepth 100000 in
set_option maxHeartbeats 2000000 in
theorem sums_nil (at_ : Int) (w : World) :
    Calls Try.prog 6 #[.slice none 0 0, .int .i64 at_] w fun e w' => e = .returned (.bool true) ∧ Below w.heap.size w w' := by
  obtain ⟨i0, hi, hz0, hz1, hz2⟩ := info_parts Try.info3
  have hi := Lib.hid hi
  have hlit : (w.alloc (.cells #[.int .i64 0] 3)).ownsRow w.heap.size 3 1 (.slice (some ⟨w.heap.size, 0, none⟩) 1 1) 1 [.int .i64 0] :=
    ⟨rfl, .inr ⟨_, _, _, rfl, Nat.le_refl _, World.alloc_heap_new w _, Nat.le_refl _, by decide, rfl, rfl⟩⟩
  rcases Int.lt_trichotomy at_ 0 with h | rfl | h
  all_goals
    go_enter Try.func6, Try.ntmps6
    go_wp2_with fail
    (with_reducible refine (sum_nil _ _ _).mono ?_)
    rintro e w' ⟨rfl, rfl⟩
    go_wp2_with fail
    (with_reducible refine (sum_nil _ _ _).mono ?_)
    rintro e w' ⟨rfl, rfl⟩
    go_wp2_with (at_builtin; refine wpList_append_own_none rfl _ _ 22 rfl w.heap.size 3 i0 1 Try.underlying22 hi.out _ _ _ rfl hlit rfl ?_)
    have hS3 := Lib.hid (sum_n _ 1 1 [0] _ 0 0 rfl (ints_of_row3 (zs := [0]) hlit rfl) (by simp) (by simp; decide) (by decide) (by decide))
    have hbl0 : Below w.heap.size w _ := (Below.refl w.heap.size w).alloc (Nat.le_refl _) (.cells #[.int .i64 0] 3)
    clear hlit
    generalize w.alloc (.cells #[.int .i64 0] 3) = w1 at *
    (with_reducible refine hS3.out.mono ?_)
    rintro e w' ⟨rfl, rfl⟩
    clear hS3
    go_wp2_with fail
    (with_reducible refine (sum_nil _ _ _).mono ?_)
    rintro e w' ⟨rfl, rfl⟩
    go_wp2_with fail
    (with_reducible refine (wakes_any _).mono ?_)
    rintro e w' ⟨rfl, hbl⟩
    go_wp2
    go_ret
    exact ⟨rfl, hbl0.trans (hbl.mono hbl0.size)⟩

/-- What came in as a slice of integers: nil, or a row of cap cells in memory. -/
def IsRow (k : IntKind) (w : World) (a : Option Addr) (len cap : Nat) (zs : List Int) : Prop :=
  (a = none ∧ len = 0 ∧ cap = 0 ∧ zs = []) ∨
  ∃ x, a = some x ∧ len ≤ cap ∧ cap ≤ maxLen ∧ zs.length = cap ∧ (∀ i, i < zs.length → w.cell? (x.add i) = some (.int k (zs.getD i 0))) ∧ ∀ n ∈ zs, (Lit.int k n).wf = true

theorem walk (a0 : Option Addr) (len0 cap0 : Nat) (z0 : List Int) (a1 : Int) (w : World) (w0 : IsRow .i64 w a0 len0 cap0 z0) (w1 : (Lit.int .i64 a1).wf = true) :
    Calls Try.prog 6 #[.slice a0 len0 cap0, .int .i64 a1] w fun e w' => e = .returned (.bool true) ∧ Below w.heap.size w w' := by
  rcases w0 with ⟨rfl, rfl, rfl, rfl⟩ | ⟨x, rfl, hl, hm, hz, hcell, hwz⟩
  · exact sums_nil a1 w
  · by_cases h60 : 60 < len0
    · exact sums_long _ _ _ _ w h60 (Nat.le_trans hl hm)
    by_cases h0 : len0 = 0
    · subst h0; exact sums_empty x cap0 a1 w
    · obtain ⟨b, off, spot⟩ := x
      have hc := hcell 0 (by omega)
      have hspot : spot = none := by simpa [Addr.add] using World.cell?_spot hc
      subst hspot
      have hlen : (z0.take len0).length = len0 := by simp; omega
      have hcc : ∀ i, i < (z0.take len0).length → w.cell? ⟨b, off + i, none⟩ = some (.int .i64 ((z0.take len0)[i]?.getD 0)) := by
        intro i hi
        rw [hlen] at hi
        have := hcell i (by omega)
        rw [add_addr] at this
        rw [this, List.getElem?_take, if_pos hi]
        rfl
      have hb : b < w.heap.size := by
        by_cases hlt : b < w.heap.size
        · exact hlt
        · have : w.heap[b]? = none := by simp; omega
          have hh := hcc 0 (by omega)
          simp [World.cell?, this] at hh
      have hww : ∀ z ∈ z0.take len0, fits z = true := fun z hz => fits_of_wf (hwz z (List.mem_of_mem_take hz))
      generalize z0.take len0 = zs at *
      subst hlen
      rcases Int.lt_or_le a1 0 with hn | hp
      · exact sums_below b off cap0 0 a1 zs w hcc hb (by omega) (by omega) (by omega) (by omega) hww hn rfl
      · by_cases ho : (zs.length : Int) < a1
        · by_cases hf : zs.length = cap0
          · subst hf; exact sums_overfull b off zs.length zs.length a1 zs w hcc hb (by omega) (by omega) (by omega) (by omega) hww ho rfl
          · exact sums_over b off cap0 zs.length a1 zs w hcc hb (by omega) (by omega) (by omega) (by omega) hww ho hf rfl
        · obtain ⟨k, rfl⟩ := Int.eq_ofNat_of_zero_le hp
          by_cases hf : k = cap0
          · obtain rfl : k = zs.length := by omega
            subst hf; exact sums_full b off zs.length zs.length 0 zs w hcc hb (by omega) (by omega) (by omega) (by omega) hww rfl
          · exact sums_mid b off cap0 k 0 zs w hcc hb (by omega) (by omega) (by omega) (by omega) hww hf rfl

set_option maxRecDepth 100000 in
theorem lifted (os : Os) (started : os.Started) (H : Type) (enc : TypeId × Value → H) :
    ReturnsInHanded {} Try.checked os 6 .any (Rows.numSumsSpec.pre6 enc Try.prog Try.f6 Rows.numSumsRow.domain false) (Rows.numSumsSpec.post enc Try.prog Try.f6 false true false false) := by
  refine returnsInHanded_of_change (C := Try.checked) own started (by kernel_rfl) Try.func6
    (ChangeSpec.witness6 (enc := enc) (C := Try.checked) false ⟨#[], #[.slice none 0 0, .int .i64 0], []⟩ 8 (by kernel_rfl) (by kernel_rfl) (by kernel_rfl) (by kernel_rfl)) ?_
  intro W base args ds gs before hval0 hW hcnd _
  have hval : ∀ (j : Nat) t v, Try.f6.params[j]? = some t → args[j]? = some v → Value.okWide Try.prog W .any base t v := hval0
  have hW' := hW
  obtain ⟨p, q, hA0, hV, rfl, hfz, hnd⟩ := hW
  have hA : DataW.TrodAll enc Try.prog W 0 (fun _ => true) true Try.f6.params.toList args.toList ds p := hA0
  rw [Try.params6] at hA hval
  obtain ⟨v0, vs0, d0, ds0, p0, q0, hargs, rfl, rfl, h0, r0⟩ := trodAll_cons hA
  obtain ⟨v1, vs1, d1, ds1, p1, q1, rfl, rfl, rfl, h1, r1⟩ := trodAll_cons r0
  obtain ⟨rfl, rfl, rfl⟩ := trodAll_nil r1
  obtain rfl : args = #[v0, v1] := by cases args; simp_all
  obtain ⟨rfl, rfl⟩ := trodVars_none hV
  obtain ⟨a0, len0, cap0, rfl⟩ := okWide_slice Try.underlying22 (hval 0 22 v0 rfl rfl)
  have k0 := h0
  have lt0 : ∀ x ∈ p0, x.block < W.heap.size := by obtain ⟨m, hm⟩ := k0; exact DataW.trod_lt m _ _ _ hm
  obtain ⟨z0, w0⟩ : ∃ zs, IsRow .i64 W a0 len0 cap0 zs := by
    obtain ⟨fuel, hf⟩ := h0
    rcases open_ints Try.underlying22 Try.underlying3 (by kernel_rfl) hf with ⟨hcs, _⟩ | ⟨x, l, c, zs, hcs, _, hl, hm, hz, _, hcell, hwz⟩
    · simp [Value.cells] at hcs
      obtain ⟨rfl, rfl, rfl⟩ := hcs
      exact ⟨[], .inl ⟨rfl, rfl, rfl, rfl⟩⟩
    · simp [Value.cells] at hcs
      obtain ⟨rfl, rfl, rfl⟩ := hcs
      exact ⟨zs, .inr ⟨_, rfl, hl, hm, by simpa using hz, hcell, hwz⟩⟩
  obtain ⟨a1, rfl, rfl, rfl, w1⟩ := open_int Try.underlying3 (hval 1 3 v1 rfl rfl) h1
  clear hA0 hval0
  refine (walk a0 len0 cap0 z0 a1 W w0 w1).mono fun e W' ⟨he, bel⟩ => ?_
  subst he
  exact ⟨_, rfl, _, _, _, [], _, [], hW', trodAll_mk1 (shut_bool Try.underlying4 _), (trodAll_cons_mk (Below.trod laidOut (by kernel_rfl) (of_decide_eq_true (by kernel_rfl)) k0 bel lt0) (trodAll_cons_mk (shut_int Try.underlying3 w1) trodAll_mk0)), rfl, bel.frame _, fun h => by cases h⟩

theorem over : Rows.numSumsRow.holds Try.pinned (OpenSpec.ofChange Rows.numSumsSpec) :=
  OpenClaim.holds_of_wide 6 Try.f6 rfl rfl rfl rfl rfl rfl rfl ⟨rfl, rfl, rfl, rfl, rfl⟩ rfl rfl rfl rfl rfl (by kernel_rfl) Try.func6 (by kernel_rfl)
    (of_decide_eq_true (by kernel_rfl)) (by unfold Func.isWrapper; first | (rw [if_pos (by decide +kernel)]; kernel_rfl) | (rw [if_neg (by decide +kernel)]; exact ⟨rfl, rfl⟩))
    (fun os started H enc _ => lifted os started H enc)

theorem proved : Rows.NumSumsSaid := over
#print axioms proved
end Go.Proofs.Ytiekaiaekokepaa.numSums
