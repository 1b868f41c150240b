/-
  Contract of rightTerm.
-/
import Derived.Test.YtccmnngeibpcmaaGreatRS
namespace Go.Proofs.YtccmnngeibpcmaaGreat.Tree
open Go.ChangeShapes Go.WideShapes Go.ChangeAt Go.RowKit
set_option linter.unusedVariables false
set_option linter.unusedSimpArgs false
attribute [local go_sem] Oper.semAt_some
/-- A term whose kind and number are in their bounds. -/
def headT (t : Tm) : Prop := t.k < 7 ∧ -1099511627776 ≤ t.n ∧ t.n ≤ 1099511627776
def nameOk (x : Int) : Bool := decide (0 ≤ x) && decide (x ≤ 25)
theorem rightT_head {t : Tm} (h : ¬ headT t) : rightT t = false := by
  cases hr : rightT t with
  | false => rfl
  | true => have := (rightT_iff t).1 hr; exact absurd ⟨this.1, this.2.1, this.2.2.1⟩ h
theorem rightT_name {t : Tm} {x : Int} {k : Nat} (hx : (namesT t)[k]? = some x) (h : nameOk x = false) : rightT t = false := by
  cases hr : rightT t with
  | false => rfl
  | true =>
    have h2 := (rightT_iff t).1 hr
    have h3 : x = t.s ∨ x = t.r := by
      have hm := List.mem_of_getElem? hx
      unfold namesT at hm
      split at hm
      · simp at hm
      · split at hm
        · simpa using hm
        · left; simpa using hm
    unfold nameOk at h
    have h4 : 0 ≤ x ∧ x ≤ 25 := by rcases h3 with rfl | rfl <;> omega
    simp [h4] at h
theorem rightT_all {t : Tm} (hh : headT t) (hn : ∀ x ∈ namesT t, nameOk x = true) : rightT t = decide (unT t = ⟨t.k, t.n, 0, 0⟩) := by
  obtain ⟨k, n, s, r⟩ := t
  unfold headT at hh
  have hi := rightT_iff ⟨k, n, s, r⟩
  dsimp only at hi hh ⊢
  rw [Bool.eq_iff_iff, hi, decide_eq_true_iff]
  unfold namesT at hn
  unfold unT
  dsimp only at hn ⊢
  unfold nameOk at hn
  by_cases h0 : k = 0
  · subst h0
    simp
    omega
  · by_cases h5 : k = 5 ∨ k = 6
    · simp [h0, h5] at hn ⊢
      omega
    · simp [h0, h5] at hn ⊢
      omega
set_option maxRecDepth 100000 in
set_option maxHeartbeats 1000000 in
theorem rightTerm_head (t : Tm) (w : World) (h : ¬ headT t) : Calls Tryz.prog 95 #[tmV t] w fun e w' => e = .returned (.bool false) ∧ Below w.heap.size w w' := by
  have hb := kept_new w (.cells #[.int .u8 t.k, .int .i64 t.n, .int .i64 t.s, .int .i64 t.r] 93)
  obtain ⟨c0, c1, c2, c3⟩ := (TmBox.new w t).c
  unfold headT at h
  refine (callsIn_wide (n := 9)).1 ?_
  refine callsIn_of_wp_marks Tryz.func95 rfl trivial ?_ rfl
  rw [wpIn_wide]
  simp only [Tryz.ntmps95, List.size_toArray, List.length_cons, List.length_nil, Nat.reduceAdd, Nat.reduceSub, Array.replicate_succ, Array.replicate_zero, List.push_toArray, List.append_toArray, List.nil_append, List.cons_append]
  go_wp2
  refine wp_scope_jumps 0 (fun a' W => Below w.heap.size w W ∧ a'.defers = [] ∧ 2 < a'.tmps.size) (fun _ _ => 0) rfl ?_ ?_
  · by_cases h1 : (7 : Int) ≤ t.k
    · go_wp2
      refine wp_goto ?_
      exact ⟨rfl, hb, rfl, by simp⟩
    · by_cases h2 : t.n < -1099511627776
      · go_wp2
        refine wp_goto ?_
        exact ⟨rfl, hb, rfl, by simp⟩
      · have h3 : (1099511627776 : Int) < t.n := by omega
        go_wp2
        refine wp_goto ?_
        exact ⟨rfl, hb, rfl, by simp⟩
  · rintro a' W ⟨hB, hd, hs⟩
    go_wp2
    rw [jump_ret]
    exact ⟨.bool false, by simp [results, Tryz.results95, go_sem, hs], rfl, hB⟩
/-- What rightTerm has behind k names. -/
def RtIn (w : World) (t : Tm) (k : Nat) (W : World) : Prop := TmBox w.heap.size t W ∧ TmBox (w.heap.size + 1) t W ∧ Below w.heap.size w W ∧ ∀ j x, j < k → (namesT t)[j]? = some x → nameOk x = true
theorem RtIn.own (w : World) (t : Tm) (B : Nat) (hB : w.heap.size ≤ B) : OwnFrom B (RtIn w t) := by
  rintro k X Y row ⟨h1, h2, h3, h4⟩ hg hrow
  exact ⟨ownFrom_block _ (fun _ : Unit => _) 93 B () X Y row h1 hg hrow, ownFrom_block _ (fun _ : Unit => _) 93 B () X Y row h2 hg hrow, ownFrom_below (Nat.le_refl _) hB k X Y row h3 hg hrow, h4⟩
def RtOut (w : World) (t : Tm) (c : Code) (W : World) : Prop := c = .goto 0 ∧ rightT t = false ∧ Below w.heap.size w W
theorem RtOut.own (w : World) (t : Tm) (B : Nat) (hB : w.heap.size ≤ B) : OwnFrom B (RtOut w t) := by
  rintro c X Y row ⟨h1, h2, h3⟩ hg hrow
  exact ⟨h1, h2, ownFrom_below (Nat.le_refl _) hB c X Y row h3 hg hrow⟩
theorem names_row (t : Tm) {k : Nat} (hk : k < (namesT t).length) : ∃ x, (namesT t)[k]? = some x ∧ (nameRow t)[k]?.getD #[] = #[.int .i64 x] := by
  rcases names_at t k hk with ⟨_, e, h⟩ | ⟨_, e, h⟩ <;> exact ⟨_, h, e⟩
set_option maxRecDepth 100000 in
set_option maxHeartbeats 1000000 in
theorem rightTerm_all (t : Tm) (w : World) (h : headT t) : Calls Tryz.prog 95 #[tmV t] w fun e w' => e = .returned (.bool (rightT t)) ∧ Below w.heap.size w w' := by
  have hb2 := below_two w (.cells #[.int .u8 t.k, .int .i64 t.n, .int .i64 t.s, .int .i64 t.r] 93) (.cells #[.int .u8 t.k, .int .i64 t.n, .int .i64 t.s, .int .i64 t.r] 93)
  have hI0 : RtIn w t 0 ((w.alloc (.cells #[.int .u8 t.k, .int .i64 t.n, .int .i64 t.s, .int .i64 t.r] 93)).alloc (.cells #[.int .u8 t.k, .int .i64 t.n, .int .i64 t.s, .int .i64 t.r] 93)) :=
    ⟨(TmBox.new w t).later (kept_new _ _), new_two _ _ _, hb2, fun j x hj => by omega⟩
  obtain ⟨c0, c1, c2, c3⟩ := (TmBox.new w t).c
  have hle := names_le t
  have hh := Lib.hid h
  have hA := Lib.hid (rightT_all h)
  obtain ⟨h1, h2, h3⟩ := h
  have h1' : ¬ (7 : Int) ≤ t.k := by omega
  have h2' : ¬ t.n < -1099511627776 := by omega
  have h3' : ¬ (1099511627776 : Int) < t.n := by omega
  clear hb2
  refine (callsIn_wide (n := 9)).1 ?_
  refine callsIn_of_wp_marks Tryz.func95 rfl trivial ?_ rfl
  rw [wpIn_wide]
  simp only [Tryz.ntmps95, List.size_toArray, List.length_cons, List.length_nil, Nat.reduceAdd, Nat.reduceSub, Array.replicate_succ, Array.replicate_zero, List.push_toArray, List.append_toArray, List.nil_append, List.cons_append]
  go_wp2
  refine wp_scope_jumps 0 (fun a' W => rightT t = false ∧ Below w.heap.size w W ∧ 2 < a'.tmps.size ∧ ∃ D, a'.defers = [{ target := .collected D, args := #[] }] ∧ W.heap[D]? = some (.deferred (some [])) ∧ w.heap.size ≤ D) (fun _ _ => 0) rfl ?_ ?_
  · go_wp2_with ((with_reducible refine (namesOf_any _ _).mono ?_); rintro e w' ⟨rfl, rfl⟩)
    clear c0 c1 c2 c3
    refine (wpIn_wide (n := 9)).1 ?_
    generalize hW0 : ((w.alloc (.cells #[.int .u8 t.k, .int .i64 t.n, .int .i64 t.s, .int .i64 t.r] 93)).alloc (.cells #[.int .u8 t.k, .int .i64 t.n, .int .i64 t.s, .int .i64 t.r] 93)) = W0 at *
    have hs0 : W0.heap.size = w.heap.size + 2 := by rw [← hW0]; simp
    clear hW0
    refine wpIn_rangeFunc_rowT rfl (by omega) (gf := 109) (lb := #[.pointer (some ⟨w.heap.size + 1, 0, none⟩)]) rfl trivial (enters_of Tryz.func109 (by kernel_rfl) rfl)
      (names_tells 8 (w.heap.size + 1) (by omega) t W0) (Below.refl _ _) (fun k hk => by rw [nameRow_len] at hk; obtain ⟨x, _, e⟩ := names_row t hk; rw [e]; rfl)
      (RtIn w t) (RtOut w t) (RtIn.own w _ _ (by omega)) (RtOut.own w _ _ (by omega)) (fun k W h => h.2.1) (fun _ _ h => trivial)
      hI0
      (fun k a' W => ∃ x u1 u2 u3 u4 u5 u6 u7 u8 u9 u10 u11 u12 u13 u14, (namesT t)[k]? = some x ∧
        a' = { tmps := #[tmV t, .pointer (some ⟨w.heap.size, 0, none⟩), .bool false, .int .i64 x, u1, u2, u3, u4, u5, u6, u7, u8, u9, u10, u11, u12, u13, tmV t, .func (.func 109) #[] #[.pointer (some ⟨w.heap.size + 1, 0, none⟩)], u14, undef, undef, undef, undef, undef, undef, undef, undef, undef, undef, undef], defers := [] })
      (fun k a' => ownFrom_pure _ _)
      ?assign ?body ?done ?stop
    case assign =>
      intro l k W K hk hI hK
      rw [nameRow_len] at hk
      obtain ⟨x, hx, e⟩ := names_row t hk
      rw [e]
      gi_wp2
      exact hK _ _ (KeepsFrom.refl _ _) (KeepsT.refl _ _) hI ⟨x, _, _, _, _, _, _, _, _, _, _, _, _, _, _, hx, rfl⟩
    case body =>
      rintro l k a' W hk ⟨b1, b2, b3, b4⟩ ⟨x, u1, u2, u3, u4, u5, u6, u7, u8, u9, u10, u11, u12, u13, u14, hx, rfl⟩
      obtain ⟨ok, hok⟩ : ∃ ok, nameOk x = ok := ⟨_, rfl⟩
      have hC := Lib.hid (fun w => upTo_any x 25 ok w hok)
      clear h1' h2' h3' h1 h2 h3
      cases ok
      · have hr := Lib.hid (rightT_name hx hok)
        clear hok
        gi_wp2_with fail
        refine ⟨trivial, ((callsIn_wide (n := 6)).2 (hC.out _)).mono ?_⟩
        rintro e w6 ⟨rfl, rfl⟩
        gi_wp2
        refine wpIn_goto ?_
        exact ⟨KeepsFrom.refl _ _, rfl, hr.out, b3⟩
      · have hr : Hid (∀ j y, j < k + 1 → (namesT t)[j]? = some y → nameOk y = true) := fun j y hj hy => by
          by_cases hjk : j = k
          · subst hjk; rw [hx] at hy; cases hy; exact hok
          · exact b4 j y (by omega) hy
        clear hok hx
        gi_wp2_with fail
        refine ⟨trivial, ((callsIn_wide (n := 6)).2 (hC.out _)).mono ?_⟩
        rintro e w6 ⟨rfl, rfl⟩
        gi_wp2
        exact ⟨KeepsFrom.refl _ _, KeepsT.refl _ _, b1, b2, b3, hr.out⟩
    case done =>
      rintro D W hD ⟨b1, b2, b3, b4⟩ hK
      rw [nameRow_len] at b4
      have hDw : w.heap.size ≤ D := by omega
      have hr : Hid (rightT t = decide (unT t = ⟨t.k, t.n, 0, 0⟩)) := rightT_all hh.out (fun x hx => by
        obtain ⟨j, hj⟩ := List.mem_iff_getElem?.1 hx
        exact b4 j x (List.getElem?_eq_some_iff.1 hj).1 hj)
      clear b4 h1' h2' h3' h1 h2 h3
      obtain ⟨c0, c1, c2, c3⟩ := b1.c
      have hU := Lib.hid (fun w => unnamed_any t w)
      have hE := tm_eql (unT t) ⟨t.k, t.n, 0, 0⟩
      dsimp only [tmV] at hE hU
      go_wp2
      refine wp_mono (Q := Exit.then (fun a' W2 => a'.defers = [{ target := .collected D, args := #[] }] ∧ 2 < a'.tmps.size ∧ a'.tmps.getD 2 undef = .bool (rightT t) ∧ Below W.heap.size W W2) (fun _ _ _ => False)) ?_ ?_
      · rw [hr.out]
        go_region_with ((with_reducible refine (hU.out _).mono ?_); rintro e w1 ⟨rfl, hq⟩; have y0 := bcell ((Below.refl W.heap.size W).drew.trans hq) (World.block_lt_of_cell? W _ c0) c0; have y1 := bcell ((Below.refl W.heap.size W).drew.trans hq) (World.block_lt_of_cell? W _ c1) c1)
        all_goals exact ⟨rfl, (by decide : 2 < 31), rfl, (Below.refl W.heap.size W).drew.trans hq⟩
      · rintro e a' W2 hQ
        cases e <;> first | exact hQ.elim | skip
        obtain ⟨hd, hs, hg, hB2⟩ := hQ
        obtain ⟨tm, df⟩ := a'
        dsimp only at hd hs hg
        subst hd
        have hK2 := (hB2.block D (Array.getElem?_eq_some_iff.1 hK).1).trans hK
        go_wp2
        rw [jump_ret]
        refine ⟨by simp, .inl ⟨_, _, rfl, run_takeDeferred hK2, ?_⟩⟩
        exact ⟨_, by rw [← hg]; exact results_tmp rfl _ _ _, rfl, (b3.trans (hB2.mono b3.size)).trans (belowK_b (w := w) (Nat.le_refl _) W2 D _ (.deferred none) hDw hK2 rfl rfl)⟩
    case stop =>
      rintro D c W hD ⟨rfl, hr, hB⟩ hK
      refine wpIn_goto ?_
      exact ⟨rfl, hr, hB, by simp, D, rfl, hK, by omega⟩
  · rintro a' W ⟨hr, hB, hs, D, hd, hK, hD⟩
    obtain ⟨tm, df⟩ := a'
    dsimp only at hd hs
    subst hd
    go_wp2
    rw [jump_ret]
    refine ⟨by simp, .inl ⟨_, _, rfl, run_takeDeferred hK, ?_⟩⟩
    refine ⟨.bool false, by simp [results, Tryz.results95, go_sem, hs], by rw [hr], hB.trans (belowK_b (w := w) (Nat.le_refl _) W D _ (.deferred none) hD hK rfl rfl)⟩
theorem rightTerm_any (t : Tm) (w : World) : Calls Tryz.prog 95 #[tmV t] w fun e w' => e = .returned (.bool (rightT t)) ∧ Below w.heap.size w w' := by
  by_cases h : headT t
  · exact rightTerm_all t w h
  · rw [rightT_head h]; exact rightTerm_head t w h
end Go.Proofs.YtccmnngeibpcmaaGreat.Tree
