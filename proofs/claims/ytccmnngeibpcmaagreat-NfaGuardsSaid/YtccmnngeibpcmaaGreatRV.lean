/-
  Contract of rightStep, its third part: the terms.
-/
import Derived.Test.YtccmnngeibpcmaaGreatRU
namespace Go.Proofs.YtccmnngeibpcmaaGreat.Tree
open Go.ChangeShapes Go.WideShapes Go.ChangeAt Go.RowKit
set_option linter.unusedVariables false
set_option linter.unusedSimpArgs false
attribute [local go_sem] Oper.semAt_some
/-- What rightStep has behind k terms: its second box at B. -/
def RsIn (w : World) (B : Nat) (s : Sp) (v : Value) (k : Nat) (W : World) : Prop := SpBox B s v W ∧ Below w.heap.size w W ∧ ∀ j t, j < k → (termsC s.cs)[j]? = some t → rightT t = true
theorem RsIn.own (w : World) (D : Nat) (s : Sp) (v : Value) (B : Nat) (hB : w.heap.size ≤ B) : OwnFrom B (RsIn w D s v) := by
  rintro k X Y row ⟨h1, h2, h3⟩ hg hrow
  exact ⟨ownFrom_block _ (fun _ : Unit => _) 45 B () X Y row h1 hg hrow, ownFrom_below (Nat.le_refl _) hB k X Y row h2 hg hrow, h3⟩
def RsOut (w : World) (s : Sp) (c : Code) (W : World) : Prop := c = .goto 0 ∧ rightS s = false ∧ Below w.heap.size w W
theorem RsOut.own (w : World) (s : Sp) (B : Nat) (hB : w.heap.size ≤ B) : OwnFrom B (RsOut w s) := by
  rintro c X Y row ⟨h1, h2, h3⟩ hg hrow
  exact ⟨h1, h2, ownFrom_below (Nat.le_refl _) hB c X Y row h3 hg hrow⟩
theorem term_row {cs : List Cp} {k : Nat} (hk : k < (termRow cs).length) : ∃ t, (termsC cs)[k]? = some t ∧ (termRow cs)[k]?.getD #[] = #[tmV t] := by
  have hk' : k < (termsC cs).length := by simpa [termRow] using hk
  exact ⟨(termsC cs)[k], by simp [hk'], by simp [termRow, hk']⟩
theorem TmBox.below {p : Nat} {t : Tm} {w w' : World} (h : TmBox p t w) (hb : Below w.heap.size w w') : TmBox p t w' := h.later hb
set_option maxRecDepth 100000 in
set_option maxHeartbeats 1000000 in
theorem rightStep_ops (s : Sp) (a : Option Addr) (n c : Nat) (w : World) (hn : n ≤ 140737488351232) (hl : s.cs.length = n) (hc : CpsAt w (.slice a n c) s.cs) (h : numsOk s = true) (hgood : s.cs.all opOk = true) :
    Calls Tryz.prog 72 #[spV s (.slice a n c)] w fun e w' => e = .returned (.bool (rightS s)) ∧ Below w.heap.size w w' := by
  have hb := kept_new w (.cells #[.bool s.neg, .int .i64 s.kind, .int .i64 s.min, .int .i64 s.max, .bool s.strict, .slice a n c] 45)
  have hsp := SpBox.new w s (.slice a n c)
  have hin : SpIn w.heap.size s a n c (w.alloc (.cells #[.bool s.neg, .int .i64 s.kind, .int .i64 s.min, .int .i64 s.max, .bool s.strict, .slice a n c] 45)) := ⟨hsp, hl, hc.later hb⟩
  obtain ⟨c0, c1, c2, c3, c4, c5⟩ := hsp.cells
  have hRS := Lib.hid (rightS_terms h hgood)
  have hCps := Lib.hid hc
  clear hsp hc
  unfold numsOk at h
  simp only [Bool.and_eq_true] at h
  obtain ⟨⟨h1, h2⟩, h3⟩ := h
  have H1 := Lib.hid (fun w => up_nbr s.kind true w h1)
  have H2 := Lib.hid (fun w => up_nbr s.min true w h2)
  have H3 := Lib.hid (fun w => up_nbr s.max true w h3)
  clear h1 h2 h3
  replace hgood := Lib.hid hgood
  replace hl := Lib.hid hl
  replace hin := Lib.hid hin
  replace hb := Lib.hid hb
  refine (callsIn_wide (n := 9)).1 ?_
  refine callsIn_of_wp_marks Tryz.func72 rfl trivial ?_ rfl
  rw [wpIn_wide]
  simp only [Tryz.ntmps72, List.size_toArray, List.length_cons, List.length_nil, Nat.reduceAdd, Nat.reduceSub, Array.replicate_succ, Array.replicate_zero, List.push_toArray, List.append_toArray, List.nil_append, List.cons_append]
  go_wp2
  refine wp_scope_jumps 0 (fun a' W => rightS s = false ∧ Below w.heap.size w W ∧ 2 < a'.tmps.size ∧ ∃ D, a'.defers = [{ target := .collected D, args := #[] }] ∧ W.heap[D]? = some (.deferred (some [])) ∧ w.heap.size ≤ D) (fun _ _ => 0) rfl ?_ ?_
  · go_wp2_with ((first | (with_reducible refine (H1.out _).mono ?_) | (with_reducible refine (H2.out _).mono ?_) | (with_reducible refine (H3.out _).mono ?_)); rintro e w' ⟨rfl, rfl⟩)
    clear c0 c1 c2 c3 c4 c5 H1 H2 H3
    generalize (w.alloc (.cells #[.bool s.neg, .int .i64 s.kind, .int .i64 s.min, .int .i64 s.max, .bool s.strict, .slice a n c] 45)) = w0 at *
    generalize hB : w.heap.size = B at *
    replace hb : Hid (Below w.heap.size w w0) := by rw [hB]; exact hb
    replace hB := Lib.hid hB
    go_loopw [25] (fun t wr => ∃ i : Nat, i ≤ n ∧ t = .int .i64 i ∧ Hid (Below w0.heap.size w0 wr)) (fun t _ => n - (intOf t).toNat)
    case atStart => exact ⟨0, Nat.zero_le _, rfl, Below.refl _ _⟩
    case round =>
      obtain ⟨i, hi, rfl, hwr⟩ := hrel
      by_cases hlt : i < n
      · have hlti : (i : Int) < n := by omega
        obtain ⟨x, hx⟩ : ∃ x, s.cs[i]? = some x := ⟨_, List.getElem?_eq_getElem (by rw [hl.out]; exact hlt)⟩
        obtain ⟨b, o, rfl, z0, z1, z2, z3, z4, z5, z6, z7, z8⟩ := (hin.out.later hwr.out).cmp hx
        have hcp := CpBox.new wr x
        have hw1 : Hid (Below w0.heap.size w0 (wr.alloc (.cells #[.int .u8 x.op, .int .u8 x.l.k, .int .i64 x.l.n, .int .i64 x.l.s, .int .i64 x.l.r, .int .u8 x.r.k, .int .i64 x.r.n, .int .i64 x.r.s, .int .i64 x.r.r] 95))) := kept_alloc hwr.out _
        obtain ⟨q0, q1, q2, q3, q4, q5, q6, q7, q8⟩ := hcp.cells
        clear hcp
        have hok : opOk x = true := by
          have := hgood.out
          rw [List.all_eq_true] at this
          exact this x (List.mem_of_getElem? hx)
        obtain ⟨h0b, h7⟩ := opOk_yes hok
        clear hok hx
        go_wp2
        go_roundw
        case rel => exact ⟨i + 1, by omega, by go_num, hw1⟩
        case measure => simp [intOf]; omega
      · have hlti : ¬ (i : Int) < n := by omega
        have hin1 := hin.out.later hwr.out
        obtain ⟨y0, y1, y2, y3, y4, y5⟩ := hin1.1.cells
        have hbb : Below w.heap.size w wr := kept_trans hb.out hwr.out
        have hcw := hCps.out.later hbb
        clear hin
        go_wp2_with ((with_reducible refine (termsOf_any _ _ _ _ _).mono ?_); rintro e w' ⟨rfl, rfl⟩)
        clear y0 y1 y2 y3 y4 y5 hin1
        refine (wpIn_wide (n := 9)).1 ?_
        have hB0 : Below w.heap.size w (wr.alloc (.cells #[.bool s.neg, .int .i64 s.kind, .int .i64 s.min, .int .i64 s.max, .bool s.strict, .slice a n c] 45)) := kept_alloc hbb _
        have hI0 : RsIn w wr.heap.size s (.slice a n c) 0 (wr.alloc (.cells #[.bool s.neg, .int .i64 s.kind, .int .i64 s.min, .int .i64 s.max, .bool s.strict, .slice a n c] 45)) := ⟨SpBox.new wr s _, hB0, fun j t hj => by omega⟩
        have hs0 : w.heap.size ≤ (wr.alloc (.cells #[.bool s.neg, .int .i64 s.kind, .int .i64 s.min, .int .i64 s.max, .bool s.strict, .slice a n c] 45)).heap.size := hB0.size
        have hcw' : CpsAt w (.slice a n c) s.cs := hCps.out
        generalize wr.heap.size = S2 at *
        generalize (wr.alloc (.cells #[.bool s.neg, .int .i64 s.kind, .int .i64 s.min, .int .i64 s.max, .bool s.strict, .slice a n c] 45)) = W0 at *
        clear hCps hB
        have hRS' := Lib.hid hRS.out
        refine wpIn_rangeFunc_rowT rfl (by omega) (gf := 102) (lb := #[.pointer (some ⟨S2, 0, none⟩)]) rfl trivial (enters_of Tryz.func102 (by kernel_rfl) rfl)
          (terms_tells 8 S2 (by omega) s a n c hn W0) (Below.refl _ _) (fun k hk => by obtain ⟨t, _, e⟩ := term_row hk; rw [e]; rfl)
          (RsIn w S2 s (.slice a n c)) (RsOut w s) (RsIn.own w _ _ _ _ hs0) (RsOut.own w _ _ hs0) (fun k W h => ⟨h.1, hl.out, hcw'.later h.2.1⟩) (fun _ _ h => trivial)
          hI0
          (fun k a' W => ∃ (t : Tm) (p : Nat) (u0 u1 u3 u4 u6 u7 u8 u9 u10 u11 u12 u13 u14 u15 u16 u17 u18 u19 u20 u21 u22 u23 u24 u25 u26 u27 u28 u29 u30 u31 u32 u33 u34 u35 u36 u37 u38 u39 : Value), (termsC s.cs)[k]? = some t ∧ TmBox p t W ∧
            a' = { tmps := #[u0, u1, Value.bool false, u3, u4, .pointer (some ⟨p, 0, none⟩), u6, u7, u8, u9, u10, u11, u12, u13, u14, u15, u16, u17, u18, u19, u20, u21, u22, u23, u24, u25, u26, u27, u28, u29, u30, u31, u32, u33, u34, u35, u36, u37, u38, u39, tmV t, undef, undef, undef], defers := [] })
          ?ax ?assign ?body ?done ?stop
        case ax =>
          rintro k a' ⟨⟩ X Y row ⟨t, p, u0, u1, u3, u4, u6, u7, u8, u9, u10, u11, u12, u13, u14, u15, u16, u17, u18, u19, u20, u21, u22, u23, u24, u25, u26, u27, u28, u29, u30, u31, u32, u33, u34, u35, u36, u37, u38, u39, h1, h2, h3⟩ hg hrow
          exact ⟨t, p, u0, u1, u3, u4, u6, u7, u8, u9, u10, u11, u12, u13, u14, u15, u16, u17, u18, u19, u20, u21, u22, u23, u24, u25, u26, u27, u28, u29, u30, u31, u32, u33, u34, u35, u36, u37, u38, u39, h1, ownFrom_block p (fun _ : Unit => _) 93 _ () X Y row h2 hg hrow, h3⟩
        case assign =>
          intro l k W K hk hI hK
          obtain ⟨t, ht, e⟩ := term_row hk
          rw [e]
          have hk1 := kept_new W (.cells #[.int .u8 t.k, .int .i64 t.n, .int .i64 t.s, .int .i64 t.r] 93)
          have hI1 : RsIn w S2 s (.slice a n c) k (W.alloc (.cells #[.int .u8 t.k, .int .i64 t.n, .int .i64 t.s, .int .i64 t.r] 93)) := (RsIn.own w S2 s _ w.heap.size (Nat.le_refl _)).alloc _ hI
          have hsp := TmBox.new W t
          gi_wp2
          exact hK _ _ (keeps_of_below hk1) (KeepsT.of_below hk1) hI1 ⟨t, _, _, _, _, _, _, _, _, _, _, _, _, _, _, _, _, _, _, _, _, _, _, _, _, _, _, _, _, _, _, _, _, _, _, _, _, _, _, _, ht, hsp, rfl⟩
        case body =>
          rintro l k a' W hk ⟨b1, b2, b3⟩ ⟨t, p, u0, u1, u3, u4, u6, u7, u8, u9, u10, u11, u12, u13, u14, u15, u16, u17, u18, u19, u20, u21, u22, u23, u24, u25, u26, u27, u28, u29, u30, u31, u32, u33, u34, u35, u36, u37, u38, u39, ht, hp, rfl⟩
          obtain ⟨c0, c1, c2, c3⟩ := hp.c
          have hC := rightTerm_any t
          have hRno : rightT t = false → rightS s = false := fun hf => by
            rw [hRS.out, List.all_eq_false]
            exact ⟨t, List.mem_of_getElem? ht, by simp [hf]⟩
          cases hok : rightT t with
          | false =>
            have hr := Lib.hid (hRno hok)
            rw [hok] at hC
            clear hok hRno
            replace hC := Lib.hid hC
            gi_wp2_with fail
            refine ⟨trivial, ((callsIn_wide (n := 6)).2 (hC.out _)).mono ?_⟩
            rintro e w6 ⟨rfl, hb6⟩
            have hB6 := b2.trans (hb6.mono b2.size)
            gi_wp2
            refine wpIn_goto ?_
            exact ⟨keeps_of_below hb6, rfl, hr.out, hB6⟩
          | true =>
            have hr : Hid (∀ j y, j < k + 1 → (termsC s.cs)[j]? = some y → rightT y = true) := fun j y hj hy => by
              by_cases hjk : j = k
              · subst hjk; rw [ht] at hy; cases hy; exact hok
              · exact b3 j y (by omega) hy
            rw [hok] at hC
            clear hok hRno ht
            replace hC := Lib.hid hC
            gi_wp2_with fail
            refine ⟨trivial, ((callsIn_wide (n := 6)).2 (hC.out _)).mono ?_⟩
            rintro e w6 ⟨rfl, hb6⟩
            have hB6 := b2.trans (hb6.mono b2.size)
            gi_wp2
            exact ⟨keeps_of_below hb6, KeepsT.of_below hb6, b1.later hb6, hB6, hr.out⟩
        case done =>
          rintro D W hD ⟨b1, b2, b3⟩ hK
          have hDw : w.heap.size ≤ D := Nat.le_trans hs0 hD
          have hr : Hid (rightS s = true) := by
            show _ = _
            rw [hRS.out, List.all_eq_true]
            intro t ht
            obtain ⟨j, hj⟩ := List.mem_iff_getElem?.1 ht
            exact b3 j t (by simpa [termRow] using (List.getElem?_eq_some_iff.1 hj).1) hj
          clear b3 b1
          go_wp2
          rw [jump_ret]
          refine ⟨by simp, .inl ⟨_, _, rfl, run_takeDeferred hK, ?_⟩⟩
          exact ⟨_, results_tmp rfl _ _ _, by rw [hr.out]; rfl, b2.trans (belowK_b (w := w) (Nat.le_refl _) W D _ (.deferred none) hDw hK rfl rfl)⟩
        case stop =>
          rintro D c W hD ⟨rfl, hr, hB⟩ hK
          refine wpIn_goto ?_
          exact ⟨rfl, hr, hB, by simp, D, rfl, hK, Nat.le_trans hs0 hD⟩
  · rintro a' W ⟨hr, hB, hs, D, hd, hK, hD⟩
    obtain ⟨tm, df⟩ := a'
    dsimp only at hd hs
    subst hd
    go_wp2
    rw [jump_ret]
    refine ⟨by simp, .inl ⟨_, _, rfl, run_takeDeferred hK, ?_⟩⟩
    refine ⟨.bool false, by simp [results, Tryz.results72, go_sem, hs], by rw [hr], hB.trans (belowK_b (w := w) (Nat.le_refl _) W D _ (.deferred none) hD hK rfl rfl)⟩
theorem rightStep_any (s : Sp) (a : Option Addr) (n c : Nat) (w : World) (hn : n ≤ 140737488351232) (hl : s.cs.length = n) (hc : CpsAt w (.slice a n c) s.cs) (hop : ∀ x ∈ s.cs, 0 ≤ x.op) :
    Calls Tryz.prog 72 #[spV s (.slice a n c)] w fun e w' => e = .returned (.bool (rightS s)) ∧ Below w.heap.size w w' := by
  cases h : numsOk s with
  | false => rw [rightS_num h]; exact rightStep_nums s a n c w h
  | true =>
    cases hg : s.cs.all opOk with
    | true => exact rightStep_ops s a n c w hn hl hc h hg
    | false =>
      have hr : rightS s = false := by
        rw [List.all_eq_false] at hg
        obtain ⟨x, hx, ho⟩ := hg
        obtain ⟨j, hj⟩ := List.mem_iff_getElem?.1 hx
        exact rightS_op hj (by simpa using ho)
      rw [hr]
      exact rightStep_op s a n c w hn hl hc hop h hg
end Go.Proofs.YtccmnngeibpcmaaGreat.Tree
