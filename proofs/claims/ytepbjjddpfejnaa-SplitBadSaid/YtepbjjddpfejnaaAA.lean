/-
  Contract of split.Recs at every script in memory: the records of its pieces, in order, of those that are one; condition: at most 2000 bytes. Ahead of it a fenced rule for a scope whose goto jumps ahead.
-/
import Derived.Test.YtepbjjddpfejnaaZ
import Derived.ScopeJumps
namespace Go.Proofs.Ytepbjjddpfejnaa
open Go.ChangeShapes Go.WideShapes Go.ChangeAt Go.RowKit
set_option linter.unusedVariables false
set_option linter.unusedSimpArgs false
attribute [local go_sem] Oper.semAt_some
section scope
variable {F : Fence} {n : Nat} {P : Program} {Q : Exit → Act → World → Prop} {a : Act} {w : World} {b : Frame} {k : List Item} {cs : List Frame}
theorem stepR_scope {c : Code} : step P (lone (b.atR a (.code (.scope c) :: k)) cs w) = .next (lone (b.atR a (.code c :: .inScope c :: k)) cs w) :=
  step_lone_go (by simp [stepG, stepG.exec, Frame.atR])
theorem stepR_inScope {c : Code} : step P (lone (b.atR a (.inScope c :: k)) cs w) = .next (lone (b.atR a k) cs w) :=
  step_lone_go (by simp [stepG, stepG.exec, Frame.atR])
/-- A scope inside a fence whose goto jumps ahead, once. -/
theorem wpIn_scope_once {c rest : Code} (l : Nat) (J : Act → World → Prop) (hf : findLabel c l = some rest)
    (first : c.wpIn F n P (Exit.jump l J Q) a w) (pass : ∀ a w, J a w → rest.wpIn F n P (Exit.noGoto Q) a w) : (Code.scope c).wpIn F n P Q a w := by
  intro b k cs hro hb hr
  have h0 : (lone (b.atR a (.code (.scope c) :: k)) cs w).fenced P F := fenced_calm hb hr rfl
  have hg : gotoIn l (.inScope c :: k) = some (.code rest :: .inScope c :: k) := by simp [gotoIn, hf]
  obtain ⟨e, a₁, w₁, hq, harr⟩ := first b (.inScope c :: k) cs hro hb hr
  cases e with
  | normal => exact ⟨.normal, a₁, w₁, hq, .head h0 stepR_scope (StepsIn.trans harr (.one (fenced_calm hb hr rfl) stepR_inScope))⟩
  | exit id =>
    have hx : exitTo id (.inScope c :: k) = exitTo id k := by simp [exitTo]
    exact ⟨_, a₁, w₁, hq, fun k' hk => .head h0 stepR_scope (harr.1 k' (by rw [hx]; exact hk)),
      fun hr' hk => let ⟨k₁, h1, h2⟩ := harr.2 hr' (by rw [hx]; exact hk); ⟨k₁, h1, .head h0 stepR_scope h2⟩⟩
  | goto l' =>
    obtain ⟨rfl, hJ⟩ := hq
    have hs := StepsIn.head h0 stepR_scope (harr.1 _ hg)
    obtain ⟨e₂, a₂, w₂, hq₂, harr₂⟩ := pass a₁ w₁ hJ b (.inScope c :: k) cs hro hb hr
    cases e₂ with
    | normal => exact ⟨.normal, a₂, w₂, hq₂, hs.trans (StepsIn.trans harr₂ (.one (fenced_calm hb hr rfl) stepR_inScope))⟩
    | exit id =>
      have hx : exitTo id (.inScope c :: k) = exitTo id k := by simp [exitTo]
      exact ⟨_, a₂, w₂, hq₂, fun k' hk => hs.trans (harr₂.1 k' (by rw [hx]; exact hk)),
        fun hr' hk => let ⟨k₁, h1, h2⟩ := harr₂.2 hr' (by rw [hx]; exact hk); ⟨k₁, h1, hs.trans h2⟩⟩
    | goto l₂ => exact hq₂.elim
    | ret => exact ⟨_, a₂, w₂, hq₂, .of_steps hs harr₂⟩
    | panic ch => exact ⟨_, a₂, w₂, hq₂, .of_steps hs harr₂⟩
    | outgrown => exact ⟨_, a₂, w₂, hq₂, .of_steps hs harr₂⟩
  | ret => exact ⟨_, a₁, w₁, hq, .of_steps (.one h0 stepR_scope) harr⟩
  | panic ch => exact ⟨_, a₁, w₁, hq, .of_steps (.one h0 stepR_scope) harr⟩
  | outgrown => exact ⟨_, a₁, w₁, hq, .of_steps (.one h0 stepR_scope) harr⟩
end scope
/-- A record, as cells. -/
def Rc.cells (r : Rc) : List Value := [.int .u8 r.k, .int .i64 r.ts, .int .i64 r.src, .int .i64 r.seq, .int .i64 r.ek, .complex .f64 r.p r.q, .int .i64 r.rs, .int .i64 r.rt]
def rcCells (rs : List Rc) : List Value := rs.flatMap Rc.cells
theorem rcCells_len (rs : List Rc) : (rcCells rs).length = rs.length * 8 := by
  induction rs with
  | nil => rfl
  | cons x r ih =>
    have e : (rcCells (x :: r)).length = 8 + (rcCells r).length := by rw [rcCells, List.flatMap_cons, List.length_append]; rfl
    rw [e, ih, List.length_cons]; omega
theorem rcCells_snoc (rs : List Rc) (r : Rc) : rcCells rs ++ r.cells = rcCells (rs ++ [r]) := by simp [rcCells]
/-- The records rs lie in the row v. -/
def RcsAt (base : Nat) (v : Value) (rs : List Rc) (W : World) : Prop := W.ownsRow base 42 8 v rs.length (rcCells rs)
def okRc (x : Rc × Int) : List Rc := if x.2 = 0 then [x.1] else []
/-- What the piece at k is, as a record. -/
def recAt (zs : List Int) (k : Nat) : Rc × Int := recOf (ck zs (k + 1) (hasAt zs k)) (cutAt zs k)
def recsTo (zs : List Int) (n : Nat) : List Rc := (List.range n).flatMap fun j => okRc (recAt zs (placeOf zs j))
/-- The records of a script. -/
def recsOf (zs : List Int) : List Rc := recsTo zs (cnt zs)
theorem recsTo_succ (zs : List Int) (n : Nat) : recsTo zs (n + 1) = recsTo zs n ++ okRc (recAt zs (placeOf zs n)) := by simp [recsTo, List.range_succ]
theorem recsTo_len (zs : List Int) (n : Nat) : (recsTo zs n).length ≤ n := by
  induction n with
  | zero => simp [recsTo]
  | succ n ih =>
    rw [recsTo_succ, List.length_append]
    have : (okRc (recAt zs (placeOf zs n))).length ≤ 1 := by unfold okRc; split <;> simp
    omega
theorem Try.info42 : (Try.prog.info? 42).map (fun i => (i.zero, i.size, i.bytes)) = some (some (RV 0 0 0 0 0 0 0 0 0), 8, 72) := by kernel_rfl
theorem cell8_new (w : World) (r : Rc) (t : TypeId) : ∀ j u, r.cells[j]? = some u → (w.alloc (.cells #[.int .u8 r.k, .int .i64 r.ts, .int .i64 r.src, .int .i64 r.seq, .int .i64 r.ek, .complex .f64 r.p r.q, .int .i64 r.rs, .int .i64 r.rt] t)).cell? ((⟨w.heap.size, 0, none⟩ : Addr).add j) = some u := by
  intro j u hj
  rw [add_at, Nat.zero_add, cell_of_row _ w.heap.size j _ t (0, 0) (World.alloc_heap_new w _)]
  simpa [Rc.cells] using hj
theorem rc_one (r : Rc) : ∀ u ∈ r.cells, u.oneCell' = true := by
  intro u hu
  simp [Rc.cells] at hu
  rcases hu with rfl | rfl | rfl | rfl | rfl | rfl | rfl | rfl <;> rfl
/-- The bytes of a piece, as a slice of the script's memory. -/
theorem piece_scr {blk off cap k : Nat} {zs : List Int} {W : World} (h : BytesAt blk off zs W) (hcap : zs.length ≤ cap) (hk : k < zs.length) : Scr (.slice (some (leftA blk off cap k)) (hasAt zs k) (cap - (k + 1))) (ck zs (k + 1) (hasAt zs k)) W := by
  have hl : (ck zs (k + 1) (hasAt zs k)).length = hasAt zs k := pc_len zs k hk
  have hle := hasAt_le zs k hk
  by_cases h0 : hasAt zs k = 0
  · refine .inr (.inl ⟨_, _, by rw [h0], ?_⟩)
    exact List.eq_nil_of_length_eq_zero (by rw [hl, h0])
  · refine .inr (.inr ⟨blk, off + (k + 1), cap - (k + 1), ?_, by omega, h.1, fun i hi => ?_, fun z hz => h.2.2 z (List.mem_of_mem_drop (List.mem_of_mem_take hz))⟩)
    · rw [hl]; unfold leftA; rw [if_neg (by omega)]
    · rw [hl] at hi
      rw [show off + (k + 1) + i = off + (k + 1 + i) by omega, h.2.1 (k + 1 + i) (by omega)]
      simp [ck, hi]
/-- Between two rounds of Recs. -/
def RecsIn (w : World) (blk off cap : Nat) (zs : List Int) (k : Nat) (W : World) : Prop :=
  ∃ v, Boxed W w.heap.size 34 v ∧ RcsAt w.heap.size v (recsTo zs k) W ∧ ScriptAt (w.heap.size + 1) blk off cap zs W ∧ Below w.heap.size w W
theorem RecsIn_own (w : World) (blk off cap : Nat) (zs : List Int) (B : Nat) (hB : w.heap.size ≤ B) : OwnFrom B (RecsIn w blk off cap zs) := by
  rintro k X Y row ⟨v, hv, hr, ⟨hb, hy⟩, hw⟩ hg hrow
  have hrow' : ∀ r, row = some r → ∃ o : Obj, X.heap[r]? = some o ∧ o.isCells = false := fun r e => (hrow r e).2
  have hrow2 : ∀ (t : TypeId) r, row = some r → ∃ o : Obj, X.heap[r]? = some o ∧ ∀ cs fz, o ≠ .cells cs t fz := fun t r e => by
    obtain ⟨o, ho, hc⟩ := hrow' r e
    exact ⟨o, ho, no_cells hc t⟩
  exact ⟨v, boxed_own w.heap.size 34 (fun _ : Unit => v) () X Y row hv hg hrow', row_kept hr hg (hrow2 42),
    ⟨boxed_own (w.heap.size + 1) 22 (fun _ : Unit => Value.slice (some ⟨blk, off, none⟩) zs.length cap) () X Y row hb hg hrow', hy.kept hg hrow'⟩, ownFrom_below (Nat.le_refl _) hB k X Y row hw hg hrow⟩
set_option maxRecDepth 100000 in
set_option maxHeartbeats 2000000 in
theorem recs_some (blk off cap : Nat) (zs : List Int) (w : World) (hcap : zs.length ≤ cap) (hlen : zs.length ≤ 4000) (h : BytesAt blk off zs w) :
    Calls Try.prog 10 #[.slice (some ⟨blk, off, none⟩) zs.length cap] w fun e w' => ∃ v, e = .returned v ∧ RcsAt w.heap.size v (recsOf zs) w' ∧ Below w.heap.size w w' := by
  refine (callsIn_wide (n := 9)).1 ?_
  refine callsIn_of_wp_marks Try.func10 rfl trivial ?_ rfl
  rw [wpIn_wide]
  simp only [Try.ntmps10, List.size_toArray, List.length_cons, List.length_nil, Nat.reduceAdd, Nat.reduceSub, Array.replicate_succ, Array.replicate_zero, List.push_toArray, List.append_toArray, List.nil_append, List.cons_append]
  have bC := Boxed.new w 34 (.slice none 0 0)
  go_wp2_with ((with_reducible refine (pieces_any _ _ _ _ rfl _).mono ?_); rintro e w' ⟨rfl, rfl⟩)
  have bN := Boxed.new (w.alloc (.cells #[.slice none 0 0] 34)) 22 (.slice (some ⟨blk, off, none⟩) zs.length cap)
  rw [World.size_alloc] at bN
  have hB0 : Below w.heap.size w ((w.alloc (.cells #[.slice none 0 0] 34)).alloc (.cells #[.slice (some ⟨blk, off, none⟩) zs.length cap] 22)) := ((Below.refl _ w).alloc (Nat.le_refl _) _).alloc (by simp) _
  have hS0 : ScriptAt (w.heap.size + 1) blk off cap zs ((w.alloc (.cells #[.slice none 0 0] 34)).alloc (.cells #[.slice (some ⟨blk, off, none⟩) zs.length cap] 22)) := ⟨bN, h.later hB0⟩
  have hblk := h.1
  refine (wpIn_wide (n := 9)).1 ?_
  refine wpIn_rangeFunc_rowK rfl (by omega) (gf := 27) (lb := #[.pointer (some ⟨w.heap.size + 1, 0, none⟩)]) rfl trivial (enters_of Try.func27 (by kernel_rfl) rfl)
    (pieces_tells 8 (w.heap.size + 1) blk off cap (by omega) zs hcap (by omega) _ hS0) (Below.refl _ _) (fun k hk => by rw [pieceRow_len] at hk; rw [pieceRow_at _ _ _ _ _ hk]; rfl)
    (RecsIn w blk off cap zs) (fun _ _ => False) (RecsIn_own w blk off cap zs _ (by simp; omega)) (fun _ _ _ _ hs _ _ => hs) (fun k W h => h.choose_spec.2.2.1) (fun _ _ h => h)
    ⟨.slice none 0 0, bC.alloc _, World.ownsRow_nil _ _ _ _, hS0, hB0⟩
    (fun k a' W => ∃ p, w.heap.size + 1 < p ∧ PcBox p (placeOf zs k) (.slice (some (leftA blk off cap (placeOf zs k))) (hasAt zs (placeOf zs k)) (cap - (placeOf zs k + 1))) (cutAt zs (placeOf zs k)) W ∧
      a' = { tmps := #[.slice (some ⟨blk, off, none⟩) zs.length cap, undef, .slice none 0 0, .pointer (some ⟨w.heap.size, 0, none⟩), .pointer (some ⟨p, 0, none⟩), undef, undef, .slice (some ⟨blk, off, none⟩) zs.length cap, .func (.func 27) #[] #[.pointer (some ⟨w.heap.size + 1, 0, none⟩)], pieceV blk off cap zs (placeOf zs k), undef, undef, undef, undef, undef, undef, undef, undef, undef, undef, undef, undef], defers := [] })
    ?ax ?assign ?body ?done ?stop
  case ax =>
    rintro k a' ⟨⟩ X Y row ⟨p, h1, h4, rfl⟩ hg hrow
    exact ⟨p, h1, h4.kept hg (fun r e => (hrow r e).2), rfl⟩
  case assign =>
    intro l k W K hk hI hK
    rw [pieceRow_len] at hk
    rw [pieceRow_at _ _ _ _ _ hk]
    unfold pieceV
    have hl := hI.choose_spec.2.2.1.1.lt
    gi_wp2
    exact hK _ _ ((KeepsOthers.alloc W _).from _) ((RecsIn_own w blk off cap zs w.heap.size (Nat.le_refl _)).alloc _ hI) ⟨_, hl, World.alloc_heap_new W _, rfl⟩
  case body =>
    rintro l k a' W hk ⟨v, hv, hr, hS, hB⟩ ⟨p, h1, h4, rfl⟩
    rw [pieceRow_len] at hk
    have hkz := place_lt zs hk
    have hscr := piece_scr hS.2 hcap hkz
    have hkc : k ≤ 4000 := by have := cnt_le zs; omega
    have hrl := recsTo_len zs k
    obtain ⟨hc0, hc1, hc2⟩ := h4.cell
    have hPS := Lib.hid (recsTo_succ zs k)
    have hRI : Hid (Calls Try.prog 13 #[PV (placeOf zs k) (.slice (some (leftA blk off cap (placeOf zs k))) (hasAt zs (placeOf zs k)) (cap - (placeOf zs k + 1))) (cutAt zs (placeOf zs k))] W (Told (recAt zs (placeOf zs k)) W)) :=
      rec_is (placeOf zs k) _ _ (cutAt zs (placeOf zs k)) W hscr
    obtain ⟨i0, hi, hz0, hz1, hz2⟩ := info_parts Try.info42
    have hi := Lib.hid hi
    clear hscr hk
    gi_wp2_with fail
    refine wpIn_scope_once 0 (fun a' w' => KeepsFrom ((w.alloc (.cells #[.slice none 0 0] 34)).alloc (.cells #[.slice (some ⟨blk, off, none⟩) zs.length cap] 22)).heap.size W w' ∧ RecsIn w blk off cap zs (k + 1) w') rfl ?_ ?_
    · gi_wp2_with fail
      refine ⟨trivial, ((callsIn_wide (n := 6)).2 hRI.out).mono ?_⟩
      rintro e w6 ⟨rfl, hb6⟩
      have hKF := keeps_of_below (B := ((w.alloc (.cells #[.slice none 0 0] 34)).alloc (.cells #[.slice (some ⟨blk, off, none⟩) zs.length cap] 22)).heap.size) hb6
      have hv6 : Boxed w6 w.heap.size 34 v := (hb6.block _ hv.lt).trans hv
      have hr6 := row_later hr hb6
      have hS6 := hS.later hb6
      have hB6 := hB.trans (hb6.mono hB.size)
      clear hRI hc0 hc1 hc2 hv hr hS hB hb6 h4
      obtain ⟨⟨r, e⟩, hre⟩ : ∃ x, recAt zs (placeOf zs k) = x := ⟨_, rfl⟩
      rw [hre] at hPS ⊢
      clear hre
      by_cases he : e = 0
      · subst he
        have hcv : (w6.alloc (.cells #[.int .u8 r.k, .int .i64 r.ts, .int .i64 r.src, .int .i64 r.seq, .int .i64 r.ek, .complex .f64 r.p r.q, .int .i64 r.rs, .int .i64 r.rt] 42)).cell? ⟨w.heap.size, 0, none⟩ = some v := (hv6.alloc _).cell
        have hb7 : Below w.heap.size w (w6.alloc (.cells #[.int .u8 r.k, .int .i64 r.ts, .int .i64 r.src, .int .i64 r.seq, .int .i64 r.ek, .complex .f64 r.p r.q, .int .i64 r.rs, .int .i64 r.rt] 42)) := hB6.alloc hB6.size _
        have hK7 := hKF.trans ((KeepsOthers.alloc w6 (.cells #[.int .u8 r.k, .int .i64 r.ts, .int .i64 r.src, .int .i64 r.seq, .int .i64 r.ek, .complex .f64 r.p r.q, .int .i64 r.rs, .int .i64 r.rt] 42)).from _)
        have hv7 := hv6.alloc (.cells #[.int .u8 r.k, .int .i64 r.ts, .int .i64 r.src, .int .i64 r.seq, .int .i64 r.ek, .complex .f64 r.p r.q, .int .i64 r.rs, .int .i64 r.rt] 42)
        have hr7 := World.ownsRow.alloc hr6 (.cells #[.int .u8 r.k, .int .i64 r.ts, .int .i64 r.src, .int .i64 r.seq, .int .i64 r.ek, .complex .f64 r.p r.q, .int .i64 r.rs, .int .i64 r.rt] 42)
        have hS7 : ScriptAt (w.heap.size + 1) blk off cap zs (w6.alloc (.cells #[.int .u8 r.k, .int .i64 r.ts, .int .i64 r.src, .int .i64 r.seq, .int .i64 r.ek, .complex .f64 r.p r.q, .int .i64 r.rs, .int .i64 r.rt] 42)) := hS6.later ((Below.refl _ _).alloc (Nat.le_refl _) _)
        have hN := cell8_new (w6.alloc (.cells #[.int .u8 r.k, .int .i64 r.ts, .int .i64 r.src, .int .i64 r.seq, .int .i64 r.ek, .complex .f64 r.p r.q, .int .i64 r.rs, .int .i64 r.rt] 42)) r 42
        rw [World.size_alloc] at hN
        gi_wp2_with (gi_at_builtin; refine wpListIn_append_own _ rfl _ _ 34 rfl w.heap.size 42 i0 (RV 0 0 0 0 0 0 0 0 0) 8 72 Try.underlying34 hi.out hz0 hz1 hz2 rfl (by decide) _ _ _ rfl (hr7.alloc _) ⟨w6.heap.size + 1, 0, none⟩ 1 1 r.cells rfl rfl hN (rc_one r) (by unfold maxLen; omega) (by omega) (by have := hb7.size; simp at this; simp; omega) ?_; intro v' w1 hown' hgrow _; obtain ⟨g', cap', rfl⟩ := ownsRow_succ hown'; obtain ⟨hv1, hv2, hr2, hk2, hb2⟩ := hv7.appended (by decide) hr7 hb7.size (Nat.le_refl _) hown' hgrow; have hcv1 := hv1.cell; have hfv1 := hv1.frozen)
        refine wpIn_label ?_
        refine ⟨hK7.trans (hk2.from _), _, hv2, ?_, ⟨?_, ?_⟩, hb7.trans hb2⟩
        · have e : recsTo zs (k + 1) = recsTo zs k ++ [r] := hPS.out
          rw [e]
          unfold RcsAt
          rw [← rcCells_snoc, List.length_append]
          exact hr2
        · exact boxed_far ((hS7.1.alloc _).kept hgrow (hS7.1.not_row (by decide) hr7)) (by omega) _ _
        · exact ⟨by have := hb2.size; have := hb7.size; omega, fun i hi => (hb2.cell (p := ⟨blk, off + i, none⟩) (by omega)).trans (hS7.2.2.1 i hi), hS7.2.2.2⟩
      · have hne : (e == 0) = false := by simpa using he
        have hne2 : (e != 0) = true := by simpa using he
        gi_wp2_with fail
        refine wpIn_goto ?_
        refine ⟨rfl, hKF.trans ((KeepsOthers.alloc w6 _).from _), v, hv6.alloc _, ?_, hS6.later ((Below.refl _ _).alloc (Nat.le_refl _) _), hB6.alloc hB6.size _⟩
        have e2 : recsTo zs (k + 1) = recsTo zs k := by
          rw [hPS.out]
          unfold okRc
          rw [if_neg he, List.append_nil]
        rw [e2]
        exact World.ownsRow.alloc hr6 _
    · rintro ⟨t, d⟩ w2 ⟨hk2, hr2⟩
      gi_wp2
      exact ⟨hk2, hr2⟩
  case done =>
    rintro D W hD ⟨v, hv, hr, hS, hB⟩ hK
    rw [pieceRow_len] at hr
    have hc := hv.cell
    have hDw : w.heap.size ≤ D := by simp at hD; omega
    go_wp2
    refine ⟨by simp, .inl ⟨_, _, rfl, run_takeDeferred hK, ?_⟩⟩
    exact ⟨_, results_tmp rfl _ _ _, v, rfl, ownsRow_putObj hr _ hK rfl, hB.trans (belowK_b (w := w) (Nat.le_refl _) W D _ (.deferred none) hDw hK rfl rfl)⟩
  case stop =>
    rintro D c W _ h _
    exact h.elim
theorem RecsNil_own {a : Option Addr} {cap R1 R2 B : Nat} {w : World} (hB : w.heap.size ≤ B) : OwnFrom B (fun (_ : Nat) W => Boxed W R1 34 (.slice none 0 0) ∧ Boxed W R2 22 (.slice a 0 cap) ∧ Below w.heap.size w W) := by
  rintro k X Y row ⟨h1, h2, h3⟩ hg hrow
  have hrow' : ∀ r, row = some r → ∃ o : Obj, X.heap[r]? = some o ∧ o.isCells = false := fun r e => (hrow r e).2
  exact ⟨boxed_own R1 34 (fun _ : Unit => Value.slice none 0 0) () X Y row h1 hg hrow', boxed_own R2 22 (fun _ : Unit => Value.slice a 0 cap) () X Y row h2 hg hrow', ownFrom_below (Nat.le_refl _) hB k X Y row h3 hg hrow⟩
set_option maxRecDepth 100000 in
set_option maxHeartbeats 1000000 in
theorem recs_none (a : Option Addr) (cap : Nat) (w : World) :
    Calls Try.prog 10 #[.slice a 0 cap] w fun e w' => e = .returned (.slice none 0 0) ∧ Below w.heap.size w w' := by
  refine (callsIn_wide (n := 9)).1 ?_
  refine callsIn_of_wp_marks Try.func10 rfl trivial ?_ rfl
  rw [wpIn_wide]
  simp only [Try.ntmps10, List.size_toArray, List.length_cons, List.length_nil, Nat.reduceAdd, Nat.reduceSub, Array.replicate_succ, Array.replicate_zero, List.push_toArray, List.append_toArray, List.nil_append, List.cons_append]
  have bC := Boxed.new w 34 (.slice none 0 0)
  go_wp2_with ((with_reducible refine (pieces_any _ _ _ _ rfl _).mono ?_); rintro e w' ⟨rfl, rfl⟩)
  have bN := Boxed.new (w.alloc (.cells #[.slice none 0 0] 34)) 22 (.slice a 0 cap)
  rw [World.size_alloc] at bN
  have hB0 : Below w.heap.size w ((w.alloc (.cells #[.slice none 0 0] 34)).alloc (.cells #[.slice a 0 cap] 22)) := ((Below.refl _ w).alloc (Nat.le_refl _) _).alloc (by simp) _
  refine (wpIn_wide (n := 9)).1 ?_
  refine wpIn_rangeFunc_rowK rfl (by omega) (gf := 27) (lb := #[.pointer (some ⟨w.heap.size + 1, 0, none⟩)]) rfl trivial (enters_of Try.func27 (by kernel_rfl) rfl)
    (pieces_none 8 (w.heap.size + 1) cap a (by omega) _) (Below.refl _ _) (fun k hk => by simp at hk)
    (fun _ W => Boxed W w.heap.size 34 (.slice none 0 0) ∧ Boxed W (w.heap.size + 1) 22 (.slice a 0 cap) ∧ Below w.heap.size w W) (fun _ _ => False) (RecsNil_own (by simp; omega)) (fun _ _ _ _ hs _ _ => hs) (fun k W h => h.2.1) (fun _ _ h => h)
    ⟨bC.alloc _, bN, hB0⟩
    (fun k a' W => False) ?ax ?assign ?body ?done ?stop
  case ax =>
    intro k a' _ X Y row h
    exact h.elim
  case assign =>
    intro l k W K hk
    simp at hk
  case body =>
    intro l k a' W hk
    simp at hk
  case done =>
    rintro D W hD ⟨hv, _, hB⟩ hK
    have hc := hv.cell
    have hDw : w.heap.size ≤ D := by simp at hD; omega
    go_wp2
    refine ⟨by simp, .inl ⟨_, _, rfl, run_takeDeferred hK, ?_⟩⟩
    exact ⟨_, results_tmp rfl _ _ _, rfl, hB.trans (belowK_b (w := w) (Nat.le_refl _) W D _ (.deferred none) hDw hK rfl rfl)⟩
  case stop =>
    rintro D c W _ h _
    exact h.elim
theorem recs_any (s : Value) (zs : List Int) (w : World) (h : Scr s zs w) (hlen : zs.length ≤ 4000) :
    Calls Try.prog 10 #[s] w fun e w' => ∃ v, e = .returned v ∧ RcsAt w.heap.size v (recsOf zs) w' ∧ Below w.heap.size w w' := by
  have hn : ∀ a cap, Calls Try.prog 10 #[.slice a 0 cap] w fun e w' => ∃ v, e = .returned v ∧ RcsAt w.heap.size v (recsOf []) w' ∧ Below w.heap.size w w' := fun a cap => by
    refine (recs_none a cap w).mono ?_
    rintro e w' ⟨rfl, hb⟩
    exact ⟨_, rfl, World.ownsRow_nil _ _ _ _, hb⟩
  rcases h with ⟨rfl, rfl⟩ | ⟨x, cap, rfl, rfl⟩ | ⟨blk, off, cap, rfl, hcap, hb⟩
  · exact hn _ _
  · exact hn _ _
  · exact recs_some blk off cap zs w hcap hlen hb
end Go.Proofs.Ytepbjjddpfejnaa
