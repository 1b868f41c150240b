/-
  Contract of tree.Asked.
-/
import Derived.Test.YtccmnngeibpcmaaGreatRAE
namespace Go.Proofs.YtccmnngeibpcmaaGreat.Tree
open Go.ChangeShapes Go.WideShapes Go.ChangeAt Go.RowKit
set_option linter.unusedVariables false
set_option linter.unusedSimpArgs false
attribute [local go_sem] Oper.semAt_some
/-- The names of all terms of comparisons, in order. -/
def namesL (ts : List Tm) : List Int := ts.flatMap namesT
def namesC (cs : List Cp) : List Int := namesL (termsC cs)
def cntN (cs : List Cp) (k : Nat) : Nat := (namesL ((termsC cs).take k)).length
theorem cntN_zero (cs : List Cp) : cntN cs 0 = 0 := by simp [cntN, namesL]
theorem cntN_succ {cs : List Cp} {k : Nat} {t : Tm} (h : (termsC cs)[k]? = some t) : cntN cs (k + 1) = cntN cs k + (namesT t).length := by
  simp [cntN, namesL, List.take_add_one, h]
theorem cntN_end (cs : List Cp) : cntN cs (termsC cs).length = (namesC cs).length := by rw [cntN, List.take_length]; rfl
theorem names_at_all {cs : List Cp} {k j : Nat} {t : Tm} {x : Int} (h : (termsC cs)[k]? = some t) (hx : (namesT t)[j]? = some x) : (namesC cs)[cntN cs k + j]? = some x := by
  have hk := (List.getElem?_eq_some_iff.1 h).1
  obtain ⟨A, D, hA, e⟩ : ∃ A D, (termsC cs).take k = A ∧ termsC cs = A ++ t :: D := by
    refine ⟨_, (termsC cs).drop (k + 1), rfl, ?_⟩
    have h1 := List.take_append_drop k (termsC cs)
    have h2 : (termsC cs).drop k = t :: (termsC cs).drop (k + 1) := by
      rw [List.drop_eq_getElem_cons hk, (List.getElem?_eq_some_iff.1 h).2]
    rw [← h2, h1]
  unfold namesC cntN namesL
  rw [hA, e, List.flatMap_append, List.flatMap_cons, List.getElem?_append_right (by omega), Nat.add_sub_cancel_left, List.getElem?_append_left (List.getElem?_eq_some_iff.1 hx).1]
  exact hx
theorem namesC_len (cs : List Cp) : (namesC cs).length ≤ cs.length * 4 := by
  have h : ∀ ts : List Tm, (namesL ts).length ≤ ts.length * 2 := fun ts => by
    induction ts with
    | nil => simp [namesL]
    | cons t r ih =>
      have := names_le t
      unfold namesL at ih ⊢
      rw [List.flatMap_cons, List.length_append, List.length_cons]
      omega
  have := h (termsC cs)
  rw [termsC_len] at this
  unfold namesC
  omega
/-- What the inner loop has behind j names of the term at k. -/
def AiIn (w : World) (B : Nat) (W0 : World) (cs : List Cp) (spc : Array Value) (k : Nat) (t : Tm) (p : Nat) (j : Nat) (W : World) : Prop :=
  NmIn w (namesC cs) 45 spc (cntN cs k + j) W ∧ TmBox p t W ∧ KeepsFrom B W0 W ∧ KeepsT 95 W0 W
theorem KeepsT.own {β : Type} (t : TypeId) (W0 : World) (B : Nat) : OwnFrom B (fun (_ : β) W => KeepsT t W0 W) := by
  rintro k X Y row h hg hrow
  exact h.trans (KeepsT.grown hg (fun r e => by obtain ⟨-, o, ho, hc⟩ := hrow r e; exact ⟨o, ho, no_cells hc t⟩))
theorem AiIn.own (w : World) (B : Nat) (W0 : World) (cs : List Cp) (spc : Array Value) (k : Nat) (t : Tm) (p : Nat) (D : Nat) (h1 : w.heap.size ≤ D) (h2 : W0.heap.size ≤ D) : OwnFrom D (AiIn w B W0 cs spc k t p) := by
  rintro j X Y row ⟨a, b, c, d⟩ hg hrow
  exact ⟨NmIn.own w _ _ _ _ h1 _ X Y row a hg hrow, ownFrom_block p (fun _ : Unit => _) 93 D () X Y row b hg hrow, ownFrom_keepsFrom h2 j X Y row c hg hrow, KeepsT.own 95 W0 D j X Y row d hg hrow⟩
set_option maxRecDepth 100000 in
set_option maxHeartbeats 2000000 in
theorem asked_any (s : Sp) (a : Option Addr) (n c : Nat) (w : World) (hn : n ≤ 100000) (hl : s.cs.length = n) (hc : CpsAt w (.slice a n c) s.cs) :
    Calls Tryz.prog 97 #[spV s (.slice a n c)] w fun e w' => ∃ v, e = .returned v ∧ w'.ownsRow w.heap.size 3 1 v (setOf (namesC s.cs)).length (ints (setOf (namesC s.cs))) ∧ Below w.heap.size w w' := by
  refine (callsIn_wide (n := 9)).1 ?_
  refine callsIn_of_wp_marks Tryz.func97 rfl trivial ?_ rfl
  rw [wpIn_wide]
  simp only [Tryz.ntmps97, List.size_toArray, List.length_cons, List.length_nil, Nat.reduceAdd, Nat.reduceSub, Array.replicate_succ, Array.replicate_zero, List.push_toArray, List.append_toArray, List.nil_append, List.cons_append]
  have hnl : (namesC s.cs).length ≤ 400000 := by have := namesC_len s.cs; omega
  go_wp2_with ((with_reducible refine (termsOf_any _ _ _ _ _).mono ?_); rintro e w' ⟨rfl, rfl⟩)
  have hI0 := NmIn.made w (namesC s.cs) 45 45 #[.bool s.neg, .int .i64 s.kind, .int .i64 s.min, .int .i64 s.max, .bool s.strict, .slice a n c] #[.bool s.neg, .int .i64 s.kind, .int .i64 s.min, .int .i64 s.max, .bool s.strict, .slice a n c]
  refine (wpIn_wide (n := 9)).1 ?_
  generalize hW0 : (((w.alloc (.cells #[.bool s.neg, .int .i64 s.kind, .int .i64 s.min, .int .i64 s.max, .bool s.strict, .slice a n c] 45)).alloc (.cells #[.slice none 0 0] 28)).alloc (.cells #[.bool s.neg, .int .i64 s.kind, .int .i64 s.min, .int .i64 s.max, .bool s.strict, .slice a n c] 45)) = W0 at *
  have hs0 : W0.heap.size = w.heap.size + 3 := by rw [← hW0]; simp
  clear hW0
  obtain ⟨i0, hi, hz0, hz1, hz2⟩ := info_parts Tryz.info3
  replace hi := Lib.hid hi
  have hnp : n ≤ 140737488351232 := by omega
  obtain ⟨spc, hspc⟩ : ∃ spc, #[Value.bool s.neg, .int .i64 s.kind, .int .i64 s.min, .int .i64 s.max, .bool s.strict, .slice a n c] = spc := ⟨_, rfl⟩
  rw [hspc] at hI0
  have hKpAll : ∀ k W, NmIn w (namesC s.cs) 45 spc k W → SpIn (w.heap.size + 2) s a n c W := fun k W h => by
    obtain ⟨v, h1, h2, h3, h4⟩ := h
    rw [← hspc] at h3
    exact ⟨h3, hl, hc.later h4⟩
  replace hspc := Lib.hid hspc
  refine wpIn_rangeFunc_rowTH rfl (by omega) (gf := 102) (lb := #[.pointer (some ⟨w.heap.size + 2, 0, none⟩)]) rfl trivial (enters_of Tryz.func102 (by kernel_rfl) rfl)
    (terms_tells 8 (w.heap.size + 2) (by omega) s a n c hnp W0) (Below.refl _ _) (fun k hk => by obtain ⟨t, _, e⟩ := term_row hk; rw [e]; rfl)
    (fun k W => NmIn w (namesC s.cs) 45 spc (cntN s.cs k) W) (fun _ _ => False) (fun k X Y row h hg hrow => NmIn.own w _ _ _ _ (by omega) _ X Y row h hg hrow) (fun _ _ _ _ hs _ _ => hs) (fun k W h => hKpAll _ W h) (fun _ _ h => trivial)
    (by rw [cntN_zero]; exact hI0)
    (fun k a' W => ∃ (t : Tm) (p : Nat), (termsC s.cs)[k]? = some t ∧ TmBox p t W ∧
      a' = { tmps := #[spV s (.slice a n c), .pointer (some ⟨w.heap.size, 0, none⟩), .slice none 0 0, .pointer (some ⟨w.heap.size + 1, 0, none⟩), .pointer (some ⟨p, 0, none⟩), undef, spV s (.slice a n c), .func (.func 102) #[] #[.pointer (some ⟨w.heap.size + 2, 0, none⟩)], tmV t, undef, undef, undef, undef, undef, undef, undef, undef, undef, undef, undef], defers := [] })
    ?ax ?assign ?body ?done ?stop
  case ax =>
    rintro k a' ⟨⟩ X Y row ⟨t, p, h1, h2, h3⟩ hg hrow
    exact ⟨t, p, h1, ownFrom_block p (fun _ : Unit => _) 93 _ () X Y row h2 hg hrow, h3⟩
  case assign =>
    intro l k W K hk hI hK
    obtain ⟨t, ht, e⟩ := term_row hk
    rw [e]
    have hk1 := kept_new W (.cells #[.int .u8 t.k, .int .i64 t.n, .int .i64 t.s, .int .i64 t.r] 93)
    have hI1 : NmIn w (namesC s.cs) 45 spc (cntN s.cs k) (W.alloc (.cells #[.int .u8 t.k, .int .i64 t.n, .int .i64 t.s, .int .i64 t.r] 93)) := (NmIn.own w _ _ _ w.heap.size (Nat.le_refl _)).alloc _ hI
    have hsp := TmBox.new W t
    gi_wp2
    exact hK _ _ (keeps_of_below hk1) (KeepsT.of_below hk1) hI1 ⟨t, _, ht, hsp, rfl⟩
  case body =>
    rintro l k a' W hlw ⟨lr, hlr⟩ hk hI ⟨t, p, ht, hp, rfl⟩
    obtain ⟨c0, c1, c2, c3⟩ := hp.c
    gi_wp2_with fail
    refine ⟨trivial, ((callsIn_wide (n := 6)).2 (namesOf_any t W)).mono ?_⟩
    rintro e w6 ⟨rfl, rfl⟩
    gi_wp2_with fail
    have hk6 := kept_new W (.cells #[.int .u8 t.k, .int .i64 t.n, .int .i64 t.s, .int .i64 t.r] 93)
    have hI6 : NmIn w (namesC s.cs) 45 spc (cntN s.cs k) (W.alloc (.cells #[.int .u8 t.k, .int .i64 t.n, .int .i64 t.s, .int .i64 t.r] 93)) := (NmIn.own w _ _ _ w.heap.size (Nat.le_refl _)).alloc _ hI
    have hT6 := TmBox.new W t
    have hlr6 := (hk6.block _ (Array.getElem?_eq_some_iff.1 hlr).1).trans hlr
    have hAi : AiIn w W0.heap.size W s.cs spc k t W.heap.size 0 (W.alloc (.cells #[.int .u8 t.k, .int .i64 t.n, .int .i64 t.s, .int .i64 t.r] 93)) := ⟨hI6, hT6, keeps_of_below hk6, KeepsT.of_below hk6⟩
    have hsz6 : w.heap.size ≤ W.heap.size := by obtain ⟨v, _, _, _, hB⟩ := hI; exact hB.size
    have hsz7 := hk6.size
    clear hI6 hT6 c0 c1 c2 c3
    generalize hW6 : (W.alloc (.cells #[.int .u8 t.k, .int .i64 t.n, .int .i64 t.s, .int .i64 t.r] 93)) = W6 at *
    generalize hP2 : W.heap.size = p2 at *
    have hCN := cntN_succ ht
    refine wpIn_rangeFunc_rowTN (l₀ := l) (r₀ := lr) rfl hlr6 (by omega) (gf := 109) (lb := #[.pointer (some ⟨p2, 0, none⟩)]) rfl trivial (enters_of Tryz.func109 (by kernel_rfl) rfl)
      (TellsRowT.inRound l (names_tells 6 p2 (by omega) t W6)) (Below.refl _ _) (fun k hk => by rw [nameRow_len] at hk; obtain ⟨x, _, e⟩ := names_row t hk; rw [e]; rfl)
      (AiIn w W0.heap.size W s.cs spc k t p2) (fun _ _ => False) (AiIn.own w _ _ _ _ _ _ _ _ (by omega) (by omega)) (fun _ _ _ _ hs _ _ => hs) (fun k W h => h.2.1) (fun _ _ h => trivial)
      hAi
      (fun j a' W => ∃ x, (namesT t)[j]? = some x ∧
        a' = { tmps := #[spV s (.slice a n c), .pointer (some ⟨w.heap.size, 0, none⟩), .slice none 0 0, .pointer (some ⟨w.heap.size + 1, 0, none⟩), .pointer (some ⟨p, 0, none⟩), .int .i64 x, spV s (.slice a n c), .func (.func 102) #[] #[.pointer (some ⟨w.heap.size + 2, 0, none⟩)], tmV t, tmV t, .func (.func 109) #[] #[.pointer (some ⟨p2, 0, none⟩)], .int .i64 x, undef, undef, undef, undef, undef, undef, undef, undef], defers := [] })
      (fun k a' => ownFrom_pure _ _)
      ?assign2 ?body2 ?done2 ?stop2
    case assign2 =>
      intro l2 j W2 K hj hI2 hK
      rw [nameRow_len] at hj
      obtain ⟨x, hx, e⟩ := names_row t hj
      rw [e]
      gi_wp2
      exact hK _ _ (KeepsFrom.refl _ _) (KeepsT.refl _ _) hI2 ⟨x, hx, rfl⟩
    case body2 =>
      rintro l2 j a' W2 hj ⟨⟨v, hv, hr, hcc, hB⟩, hT, hKF, hKT⟩ ⟨x, hx, rfl⟩
      have hcv := hv.cell
      have hxx := names_at_all ht hx
      have hcl : cntN s.cs k + j ≤ 400000 := by have := (List.getElem?_eq_some_iff.1 hxx).1; omega
      have H72 := NmIn.next (t := 123) hv hr hcc hB hxx (by decide) (by decide) (by decide) W6.heap.size
      have H45 := NmIn.next (t := 95) hv hr hcc hB hxx (by decide) (by decide) (by decide) W0.heap.size
      have H26 := NmIn.next (t := 93) hv hr hcc hB hxx (by decide) (by decide) (by decide) W0.heap.size
      clear hx hxx hj
      replace hKF := Lib.hid hKF
      replace hKT := Lib.hid hKT
      replace hT := Lib.hid hT
      generalize hcj : cntN s.cs k + j = q at *
      gi_wp2_with (gi_at_builtin; refine wpListIn_append_own _ rfl _ _ 28 rfl w.heap.size 3 i0 (.int .i64 0) 1 8 Tryz.underlying28 hi.out hz0 hz1 hz2 rfl (by decide) _ _ _ rfl (hr.alloc _) ⟨W2.heap.size, 0, none⟩ 1 1 [.int .i64 x] rfl rfl (cell_one_new _ _ _) (by simp [Value.oneCell']) (by unfold maxLen; omega) (by omega) (by have := hB.size; simp; omega) ?_; intro v' w1 hown' hgrow _; have hvv := hv.appended (by decide) hr hB.size (by omega) hown' hgrow; have hcv1 := hvv.1.cell; have hfv1 := hvv.1.frozen; clear hvv; obtain ⟨g', cap', rfl⟩ := ownsRow_succ hown')
      obtain ⟨k1, k2, k3⟩ := H72 _ _ _ hown' hgrow
      obtain ⟨m1, m2, -⟩ := H45 _ _ _ hown' hgrow
      obtain ⟨-, n2, -⟩ := H26 _ _ _ hown' hgrow
      exact ⟨k1, k2, by rw [← Nat.add_assoc, hcj]; exact k3, n2 _ _ _ hT.out, hKF.out.trans m1, hKT.out.trans m2⟩
    case done2 =>
      rintro W2 ⟨h1, h2, h3, h4⟩
      rw [nameRow_len, ← hCN] at h1
      exact ⟨h3, h4, h1⟩
    case stop2 =>
      rintro c W2 h
      exact h.elim
  case done =>
    rintro D W hD hI hK
    have hlen : (termRow s.cs).length = (termsC s.cs).length := by simp [termRow]
    rw [hlen, cntN_end] at hI
    obtain ⟨v, hv, hr, hcc, hB⟩ := hI
    rw [List.take_length] at hr
    have hcv := hv.cell
    have hDw : w.heap.size ≤ D := by omega
    clear hKpAll hI0
    have hsl : ((namesC s.cs).mergeSort fun x y => decide (x ≤ y)).length = (namesC s.cs).length := List.length_mergeSort _
    have C1 := Lib.hid (sort_own hr (by omega))
    have hset : Hid (setOf (namesC s.cs) = Lib.compact ((namesC s.cs).mergeSort fun x y => decide (x ≤ y))) := rfl
    generalize ((namesC s.cs).mergeSort fun x y => decide (x ≤ y)) = l2 at *
    have C2 := Lib.hid (fun w1 (h : World.ownsRow w1 w.heap.size 3 1 v l2.length (ints l2)) => compact_own h (by omega))
    go_wp2_with (first
      | ((with_reducible refine C1.out.mono ?_); rintro e w1 ⟨rfl, hr1, hg1⟩; rw [← hsl] at hr1; have hv1 := block_grown hv hg1 (not_rowblock hr hv (by decide)); have hcv1 : w1.cell? ⟨w.heap.size + 1, 0, none⟩ = some v := Boxed.cell hv1)
      | ((with_reducible refine (C2.out _ hr1).mono ?_); rintro e w2 ⟨v2, rfl, hr2, hg2⟩))
    have d1 : some D ≠ v.ownBlock := fun he => by
      obtain ⟨o, ho, hc'⟩ := own_is hr 28 (by decide) D he.symm
      rcases hr.2 with ⟨rfl, _⟩ | ⟨g, cap, cur, rfl, _, hgb, _⟩
      · cases he
      · simp only [Value.ownBlock, Option.some.injEq] at he
        subst he
        rw [hgb] at hK; cases hK
    have hlD := (Array.getElem?_eq_some_iff.1 hK).1
    have hK1 := (hg1.block D hlD d1).trans hK
    have hK2 := (hg2.block D (Nat.lt_of_lt_of_le hlD hg1.size) d1).trans hK1
    have hB1 : Below w.heap.size w w1 := hB.grown hg1 hB.size (fun j ej => (hr.lt j ej).1)
    have hB2 : Below w.heap.size w w2 := hB1.grown hg2 hB1.size (fun j ej => (hr.lt j ej).1)
    refine ⟨by simp, .inl ⟨_, _, rfl, run_takeDeferred hK2, ?_⟩⟩
    exact ⟨_, results_tmp rfl _ _ _, v2, rfl, by rw [hset.out]; exact ownsRow_putObj hr2 _ hK2 rfl, hB2.trans (belowK_b (w := w) (Nat.le_refl _) w2 D _ (.deferred none) hDw hK2 rfl rfl)⟩
  case stop =>
    rintro D c W _ h _
    exact h.elim
end Go.Proofs.YtccmnngeibpcmaaGreat.Tree
