/-
  Contract of Check.
-/
import Derived.Test.YtccmnngeibpcmaaGreatCE
namespace Go.Proofs.YtccmnngeibpcmaaGreat.Tree
open Go.ChangeShapes Go.WideShapes Go.ChangeAt Go.RowKit
set_option linter.unusedVariables false
set_option linter.unusedSimpArgs false
attribute [local go_sem] Oper.semAt_some
theorem run_store_func {P : Program} {w : World} {a : Addr} {m : Mode} (f : Fn) (b : Array Value) (l : Array Value) : (store a (.func f b l) m).run P w = stored P w a (.func f b l) m := run_store P w a _ m rfl
attribute [local go_sem] run_store_func
/-- What Check reads all along: its pattern's box at S, its results' boxes behind it. -/
def CkB (S P Q A : Nat) (a : Option Addr) (n c : Nat) (win : Int) (L : List (Sp × Value)) (W : World) : Prop :=
  PtBox S (.slice a n c) win W ∧ Boxed W (S + 1) 3 (.int .i64 0) ∧ Boxed W (S + 2) 3 (.int .i64 0) ∧ Boxed W (S + 3) 31 (.int .i64 0) ∧ RuIn P Q A a n c win L W
theorem CkB.later {S P Q A : Nat} {a : Option Addr} {n c : Nat} {win : Int} {L : List (Sp × Value)} {W W' : World} (h : CkB S P Q A a n c win L W) (hb : Below W.heap.size W W') : CkB S P Q A a n c win L W' := by
  obtain ⟨h1, h2, h3, h4, h5⟩ := h
  exact ⟨h1.later hb, (hb.block _ (Array.getElem?_eq_some_iff.1 h2).1).trans h2, (hb.block _ (Array.getElem?_eq_some_iff.1 h3).1).trans h3, (hb.block _ (Array.getElem?_eq_some_iff.1 h4).1).trans h4, h5.later hb⟩
/-- How Check is left for its last lines: the results laid. -/
def CkJ (w : World) (r at' e : Int) (a' : Act) (W : World) : Prop :=
  ∃ (u0 u1 u5 u6 u7 u8 u9 u10 u11 u12 u13 u14 u15 u16 u17 u18 u19 u20 u21 u22 u33 : Value) (ds : List Deferred),
    a' = { tmps := #[u0, u1, ptr (w.heap.size + 1), ptr (w.heap.size + 2), ptr (w.heap.size + 3), u5, u6, u7, u8, u9, u10, u11, u12, u13, u14, u15, u16, u17, u18, u19, u20, u21, u22, undef, undef, undef, undef, undef, undef, undef, undef, undef, undef, u33, undef, undef, undef], defers := ds } ∧
    DefOk w.heap.size ds W ∧ Boxed W (w.heap.size + 1) 3 (.int .i64 r) ∧ Boxed W (w.heap.size + 2) 3 (.int .i64 at') ∧ Boxed W (w.heap.size + 3) 31 (.int .i64 e) ∧ Below w.heap.size w W
theorem four_box (w : World) (v : Value) (win : Int) : PtBox w.heap.size v win ((((w.alloc (.cells #[v, .int .i64 win] 24)).alloc (.cells #[.int .i64 0] 3)).alloc (.cells #[.int .i64 0] 3)).alloc (.cells #[.int .i64 0] 31)) ∧
    Boxed ((((w.alloc (.cells #[v, .int .i64 win] 24)).alloc (.cells #[.int .i64 0] 3)).alloc (.cells #[.int .i64 0] 3)).alloc (.cells #[.int .i64 0] 31)) (w.heap.size + 1) 3 (.int .i64 0) ∧
    Boxed ((((w.alloc (.cells #[v, .int .i64 win] 24)).alloc (.cells #[.int .i64 0] 3)).alloc (.cells #[.int .i64 0] 3)).alloc (.cells #[.int .i64 0] 31)) (w.heap.size + 2) 3 (.int .i64 0) ∧
    Boxed ((((w.alloc (.cells #[v, .int .i64 win] 24)).alloc (.cells #[.int .i64 0] 3)).alloc (.cells #[.int .i64 0] 3)).alloc (.cells #[.int .i64 0] 31)) (w.heap.size + 3) 31 (.int .i64 0) := by
  refine ⟨((PtBox.new w v win).later (kept_new _ _)).later (kept_alloc (kept_new _ _) _), ?_, ?_, ?_⟩
  · have := ((Boxed.new (w.alloc (.cells #[v, .int .i64 win] 24)) 3 (.int .i64 0)).alloc (.cells #[.int .i64 0] 3)).alloc (.cells #[.int .i64 0] 31)
    simpa using this
  · have := (Boxed.new ((w.alloc (.cells #[v, .int .i64 win] 24)).alloc (.cells #[.int .i64 0] 3)) 3 (.int .i64 0)).alloc (.cells #[.int .i64 0] 31)
    simpa using this
  · have := Boxed.new (((w.alloc (.cells #[v, .int .i64 win] 24)).alloc (.cells #[.int .i64 0] 3)).alloc (.cells #[.int .i64 0] 3)) 31 (.int .i64 0)
    simpa using this
theorem boxed_later {W W' : World} {p : Nat} {t : TypeId} {v : Value} (h : Boxed W p t v) (hb : Below W.heap.size W W') : Boxed W' p t v := (hb.block _ (Array.getElem?_eq_some_iff.1 h).1).trans h
/-- What the loop over the rules has ahead of rule k. -/
def CkI (w : World) (P Q A : Nat) (a : Option Addr) (n c : Nat) (win : Int) (L : List (Sp × Value)) (a' : Act) (W : World) : Prop :=
  ∃ (k : Nat) (u5 u6 u16 u17 u18 u19 u20 u21 u22 u33 : Value) (ds : List Deferred), k ≤ 7 ∧
    a' = { tmps := #[ptV (.slice a n c) win, ptr w.heap.size, ptr (w.heap.size + 1), ptr (w.heap.size + 2), ptr (w.heap.size + 3), u5, u6, undef, undef, ptV (.slice a n c) win, .bool true, .bool false, ptV (.slice a n c) win, .slice (some ⟨A, 0, none⟩) 7 7, .int .i64 7, .int .i64 k, u16, u17, u18, u19, u20, u21, u22, undef, undef, undef, undef, undef, undef, undef, undef, undef, undef, u33, undef, undef, undef], defers := ds } ∧
    DefOk w.heap.size ds W ∧ CkB w.heap.size P Q A a n c win L W ∧ Below w.heap.size w W ∧ ∀ j, j < k → KeptAll (L.map (·.1)) win j
/-- What a round over the steps reads: rule k in a box at E + 1. -/
def CrI (w : World) (P Q A : Nat) (a : Option Addr) (n c : Nat) (win : Int) (L : List (Sp × Value)) (k E : Nat) (ds : List Deferred) (j : Nat) (X : World) : Prop :=
  PtBox w.heap.size (.slice a n c) win X ∧ Boxed X (w.heap.size + 1) 3 (.int .i64 0) ∧ Boxed X (w.heap.size + 2) 3 (.int .i64 0) ∧ Boxed X (w.heap.size + 3) 31 (.int .i64 0) ∧
  PtBox P (.slice a n c) win X ∧ Boxed X Q 3 (.int .i64 (mostP (L.map (·.1)))) ∧ X.heap[A]? = some (.cells #[ruleV P Q 0, ruleV P Q 1, ruleV P Q 2, ruleV P Q 3, ruleV P Q 4, ruleV P Q 5, ruleV P Q 6] 82 (0, 0)) ∧
  Boxed X E 3 (.int .i64 k) ∧ X.heap[E + 1]? = some (.cells #[.func (.func (ruleG k)) #[] (ruleLb P Q k)] 82 (0, 0)) ∧ X.heap[E + 2]? = some (.cells #[.slice a n c] 22 (0, 0)) ∧
  Below w.heap.size w X ∧ DefOk w.heap.size ds X ∧ ∀ i s, i < j → (L.map (·.1))[i]? = some s → ruleB (L.map (·.1)) win k i s = true
theorem CrI.own (w : World) (P Q A : Nat) (a : Option Addr) (n c : Nat) (win : Int) (L : List (Sp × Value)) (k E : Nat) (ds : List Deferred) (B : Nat) (hB : w.heap.size ≤ B) (hds : ∀ D, ({ target := .collected D, args := #[] } : Deferred) ∈ ds → D < B) : OwnFrom B (CrI w P Q A a n c win L k E ds) := by
  rintro j X Y row ⟨h1, h2, h3, h4, h5, h6, h7, h8, h9, h10, h11, h12, h13⟩ hg hrow
  exact ⟨ownFrom_block _ (fun _ : Unit => _) 24 B () X Y row h1 hg hrow, ownFrom_block _ (fun _ : Unit => _) 3 B () X Y row h2 hg hrow, ownFrom_block _ (fun _ : Unit => _) 3 B () X Y row h3 hg hrow, ownFrom_block _ (fun _ : Unit => _) 31 B () X Y row h4 hg hrow,
    ownFrom_block _ (fun _ : Unit => _) 24 B () X Y row h5 hg hrow, ownFrom_block _ (fun _ : Unit => _) 3 B () X Y row h6 hg hrow, ownFrom_block _ (fun _ : Unit => _) 82 B () X Y row h7 hg hrow,
    ownFrom_block _ (fun _ : Unit => _) 3 B () X Y row h8 hg hrow, ownFrom_block _ (fun _ : Unit => _) 82 B () X Y row h9 hg hrow, ownFrom_block _ (fun _ : Unit => _) 22 B () X Y row h10 hg hrow,
    ownFrom_below (Nat.le_refl _) hB j X Y row h11 hg hrow, DefOk.own hds j X Y row h12 hg hrow, h13⟩
theorem CrI.later {w : World} {P Q A : Nat} {a : Option Addr} {n c : Nat} {win : Int} {L : List (Sp × Value)} {k E : Nat} {ds : List Deferred} {j : Nat} {X Y : World} (h : CrI w P Q A a n c win L k E ds j X) (hb : Below X.heap.size X Y) : CrI w P Q A a n c win L k E ds j Y := by
  obtain ⟨h1, h2, h3, h4, h5, h6, h7, h8, h9, h10, h11, h12, h13⟩ := h
  exact ⟨h1.later hb, boxed_later h2 hb, boxed_later h3 hb, boxed_later h4 hb, h5.later hb, boxed_later h6 hb, (hb.block _ (Array.getElem?_eq_some_iff.1 h7).1).trans h7, boxed_later h8 hb, (hb.block _ (Array.getElem?_eq_some_iff.1 h9).1).trans h9,
    (hb.block _ (Array.getElem?_eq_some_iff.1 h10).1).trans h10, kept_trans h11 hb, h12.later hb, h13⟩
theorem CrI.ckb {w : World} {P Q A : Nat} {a : Option Addr} {n c : Nat} {win : Int} {L : List (Sp × Value)} {k E : Nat} {ds : List Deferred} {j : Nat} {X : World} (h : CrI w P Q A a n c win L k E ds j X) (hl : L.length = n) (hs : SpsL w (.slice a n c) L) : CkB w.heap.size P Q A a n c win L X := by
  obtain ⟨h1, h2, h3, h4, h5, h6, h7, h8, h9, h10, h11, h12, h13⟩ := h
  exact ⟨h1, h2, h3, h4, ⟨h5, hl, hs.later h11⟩, h6, h7⟩
def CrO (w : World) (r1 r2 r3 : Int) (ds : List Deferred) (c : Code) (X : World) : Prop :=
  c = .goto 0 ∧ Boxed X (w.heap.size + 1) 3 (.int .i64 r1) ∧ Boxed X (w.heap.size + 2) 3 (.int .i64 r2) ∧ Boxed X (w.heap.size + 3) 31 (.int .i64 r3) ∧ Below w.heap.size w X ∧ DefOk w.heap.size ds X
theorem CrO.own (w : World) (r1 r2 r3 : Int) (ds : List Deferred) (B : Nat) (hB : w.heap.size ≤ B) (hds : ∀ D, ({ target := .collected D, args := #[] } : Deferred) ∈ ds → D < B) : OwnFrom B (CrO w r1 r2 r3 ds) := by
  rintro j X Y row ⟨h1, h2, h3, h4, h5, h6⟩ hg hrow
  exact ⟨h1, ownFrom_block _ (fun _ : Unit => _) 3 B () X Y row h2 hg hrow, ownFrom_block _ (fun _ : Unit => _) 3 B () X Y row h3 hg hrow, ownFrom_block _ (fun _ : Unit => _) 31 B () X Y row h4 hg hrow,
    ownFrom_below (Nat.le_refl _) hB j X Y row h5 hg hrow, DefOk.own hds 0 X Y row h6 hg hrow⟩
theorem right_step {ss : List Sp} {win : Int} (h : rightP ss win = true) {i : Nat} {s : Sp} (hs : ss[i]? = some s) : rightS s = true := by
  unfold rightP at h
  simp only [Bool.and_eq_true, List.all_eq_true] at h
  exact h.2 s (List.mem_of_getElem? hs)
theorem three_set {w W : World} {ds : List Deferred} {s1 s2 s3 : Int} (hd : DefOk w.heap.size ds W) (h1 : Boxed W (w.heap.size + 1) 3 (.int .i64 s1)) (h2 : Boxed W (w.heap.size + 2) 3 (.int .i64 s2)) (h3 : Boxed W (w.heap.size + 3) 31 (.int .i64 s3)) (hB : Below w.heap.size w W) (r1 r2 r3 : Int) :
    DefOk w.heap.size ds (((W.setCell ⟨w.heap.size + 1, 0, none⟩ (.int .i64 r1)).setCell ⟨w.heap.size + 2, 0, none⟩ (.int .i64 r2)).setCell ⟨w.heap.size + 3, 0, none⟩ (.int .i64 r3)) ∧
    Below w.heap.size w (((W.setCell ⟨w.heap.size + 1, 0, none⟩ (.int .i64 r1)).setCell ⟨w.heap.size + 2, 0, none⟩ (.int .i64 r2)).setCell ⟨w.heap.size + 3, 0, none⟩ (.int .i64 r3)) ∧
    Boxed (((W.setCell ⟨w.heap.size + 1, 0, none⟩ (.int .i64 r1)).setCell ⟨w.heap.size + 2, 0, none⟩ (.int .i64 r2)).setCell ⟨w.heap.size + 3, 0, none⟩ (.int .i64 r3)) (w.heap.size + 1) 3 (.int .i64 r1) ∧
    Boxed (((W.setCell ⟨w.heap.size + 1, 0, none⟩ (.int .i64 r1)).setCell ⟨w.heap.size + 2, 0, none⟩ (.int .i64 r2)).setCell ⟨w.heap.size + 3, 0, none⟩ (.int .i64 r3)) (w.heap.size + 2) 3 (.int .i64 r2) ∧
    Boxed (((W.setCell ⟨w.heap.size + 1, 0, none⟩ (.int .i64 r1)).setCell ⟨w.heap.size + 2, 0, none⟩ (.int .i64 r2)).setCell ⟨w.heap.size + 3, 0, none⟩ (.int .i64 r3)) (w.heap.size + 3) 31 (.int .i64 r3) := by
  have e1 := hd.set (j := 0) h1 (.int .i64 r1)
  have g2 := boxed_far h2 (show w.heap.size + 2 ≠ w.heap.size + 1 by omega) 0 (.int .i64 r1)
  have e2 := e1.set (j := 0) g2 (.int .i64 r2)
  have g3 := boxed_far (boxed_far h3 (show w.heap.size + 3 ≠ w.heap.size + 1 by omega) 0 (.int .i64 r1)) (show w.heap.size + 3 ≠ w.heap.size + 2 by omega) 0 (.int .i64 r2)
  exact ⟨e2.set (j := 0) g3 (.int .i64 r3), ((hB.setCell (by simp) _).setCell (by simp) _).setCell (by simp) _,
    boxed_far (boxed_far (h1.set (.int .i64 r1)) (show w.heap.size + 1 ≠ w.heap.size + 2 by omega) 0 (.int .i64 r2)) (show w.heap.size + 1 ≠ w.heap.size + 3 by omega) 0 (.int .i64 r3),
    boxed_far (g2.set (.int .i64 r2)) (show w.heap.size + 2 ≠ w.heap.size + 3 by omega) 0 (.int .i64 r3), g3.set (.int .i64 r3)⟩
theorem ck_end {w X : World} {r1 r2 r3 : Int} (ts : Array Value) (ds : List Deferred) (e2 : ts[2]?.getD undef = ptr (w.heap.size + 1)) (e3 : ts[3]?.getD undef = ptr (w.heap.size + 2)) (e4 : ts[4]?.getD undef = ptr (w.heap.size + 3)) (hd : DefOk w.heap.size ds X)
    (h1 : Boxed X (w.heap.size + 1) 3 (.int .i64 r1)) (h2 : Boxed X (w.heap.size + 2) 3 (.int .i64 r2)) (h3 : Boxed X (w.heap.size + 3) 31 (.int .i64 r3)) (hB : Below w.heap.size w X) :
    bodyPostM Fence.wide 9 Tryz.prog Tryz.f39 (fun e w' => e = .returned (.tuple #[.int .i64 r1, .int .i64 r2, .int .i64 r3]) ∧ Below w.heap.size w w') .ret { tmps := ts, defers := ds } X := by
  refine leaves_all (Nat.le_refl _) ds _ hB hd (fun W' hb' hk => ?_)
  have j1 : Boxed W' (w.heap.size + 1) 3 (.int .i64 r1) := hk _ _ _ _ h1
  have j2 : Boxed W' (w.heap.size + 2) 3 (.int .i64 r2) := hk _ _ _ _ h2
  have j3 : Boxed W' (w.heap.size + 3) 31 (.int .i64 r3) := hk _ _ _ _ h3
  replace j1 := j1.cell
  replace j2 := j2.cell
  replace j3 := j3.cell
  exact ⟨.tuple #[.int .i64 r1, .int .i64 r2, .int .i64 r3], by simp [results, Tryz.results39, go_sem, e2, e3, e4, j1, j2, j3], rfl, hb'⟩
set_option maxRecDepth 100000 in
set_option maxHeartbeats 4000000 in
theorem check_L (a : Option Addr) (n c : Nat) (win : Int) (L : List (Sp × Value)) (hS : Short L) (hm : ∀ x ∈ L, x.1.cs.length ≤ 100000) (ho : OpsOk L) (w : World) (hl : L.length = n) (h : SpsL w (.slice a n c) L) :
    Calls Tryz.prog 39 #[ptV (.slice a n c) win] w fun e w' => e = .returned (.tuple #[.int .i64 (checkT (L.map (·.1)) win).1, .int .i64 (checkT (L.map (·.1)) win).2.1, .int .i64 (checkT (L.map (·.1)) win).2.2]) ∧ Below w.heap.size w w' := by
  obtain ⟨r1, r2, r3, hT⟩ : ∃ r1 r2 r3, checkT (L.map (·.1)) win = (r1, r2, r3) := ⟨_, _, _, rfl⟩
  rw [hT]
  dsimp only
  replace hT := Lib.hid hT
  have hb0 := Lib.hid (((((Below.refl _ w).alloc (Nat.le_refl _) (.cells #[.slice a n c, .int .i64 win] 24)).alloc (by simp) (.cells #[.int .i64 0] 3)).alloc (by simp; omega) (.cells #[.int .i64 0] 3)).alloc (by simp; omega) (.cells #[.int .i64 0] 31))
  have hRt := Lib.hid (fun W (hW : Below w.heap.size w W) => right_V win hS ho W (h.later hW))
  refine (callsIn_wide (n := 9)).1 ?_
  refine callsIn_of_wp_marks Tryz.func39 rfl trivial ?_ rfl
  rw [wpIn_wide]
  simp only [Tryz.ntmps39, List.size_toArray, List.length_cons, List.length_nil, Nat.reduceAdd, Nat.reduceSub, Array.replicate_succ, Array.replicate_zero, List.push_toArray, List.append_toArray, List.nil_append, List.cons_append]
  go_wp2
  refine wp_scope_jumps 0 (fun a' W => CkJ w r1 r2 r3 a' W) (fun _ _ => 0) rfl ?_ ?_
  · have hb4 := four_box w (.slice a n c) win
    have hpt : PtIn w.heap.size a n c win L ((((w.alloc (.cells #[.slice a n c, .int .i64 win] 24)).alloc (.cells #[.int .i64 0] 3)).alloc (.cells #[.int .i64 0] 3)).alloc (.cells #[.int .i64 0] 31)) := ⟨hb4.1, hl, h.later hb0.out⟩
    have hC := hRt.out _ hb0.out
    generalize ((((w.alloc (.cells #[.slice a n c, .int .i64 win] 24)).alloc (.cells #[.int .i64 0] 3)).alloc (.cells #[.int .i64 0] 3)).alloc (.cells #[.int .i64 0] 31)) = W4 at *
    have c0 := hpt.1.c0
    have c1 := hpt.1.c1
    obtain ⟨R, hR⟩ : ∃ R, rightP (L.map (·.1)) win = R := ⟨_, rfl⟩
    rw [hR] at hC
    cases R with
    | false =>
      have hTT := hT.out
      rw [checkT_wrong hR] at hTT
      simp only [Prod.mk.injEq] at hTT
      obtain ⟨rfl, rfl, rfl⟩ := hTT
      replace hC := Lib.hid hC
      replace hb4 := Lib.hid hb4
      clear hR hpt hRt h hl
      go_wp2_with ((with_reducible refine hC.out.mono ?_); rintro e w5 ⟨rfl, hb5⟩; have hb45 := hb4.out.2.2.2; have x3 := (boxed_later hb45 hb5).cell; have y3 := (boxed_later hb45 hb5).frozen)
      refine wp_goto ?_
      refine ⟨rfl, _, _, _, _, _, _, _, _, _, _, _, _, _, _, _, _, _, _, _, _, _, [], rfl, trivial, boxed_far (boxed_later hb4.out.2.1 hb5) (show w.heap.size + 1 ≠ w.heap.size + 3 by omega) _ _, boxed_far (boxed_later hb4.out.2.2.1 hb5) (show w.heap.size + 2 ≠ w.heap.size + 3 by omega) _ _, (boxed_later hb4.out.2.2.2 hb5).set _, (kept_trans hb0.out hb5).setCell (p := ⟨w.heap.size + 3, 0, none⟩) (by simp) _⟩
    | true =>
      have hn26 : n ≤ 26 := by
        unfold rightP at hR
        simp only [Bool.and_eq_true, decide_eq_true_eq, List.length_map] at hR
        omega
      have hRul := Lib.hid (fun W (hW : Below w.heap.size w W) => rules_L a n c win L (by omega) W hl (h.later hW))
      replace hC := Lib.hid hC
      replace hb4 := Lib.hid hb4
      replace hR := Lib.hid hR
      clear hRt
      go_wp2_with (first
        | ((with_reducible refine hC.out.mono ?_); rintro e w5 ⟨rfl, hb5⟩; have hB5 := Lib.hid (kept_trans hb0.out hb5); have hp5 := hpt.later hb5; have d0 := hp5.1.c0; have d1 := hp5.1.c1; have hC2 := Lib.hid (hRul.out _ hB5.out); replace hp5 := Lib.hid hp5; replace hb5 := Lib.hid hb5)
        | ((with_reducible refine hC2.out.mono ?_); rintro e w6 ⟨P, Q, A, rfl, hRu, hP, hQ, hA, hb6⟩))
      have hCB : CkB w.heap.size P Q A a n c win L w6 := ⟨(hp5.out.later hb6).1, boxed_later (boxed_later hb4.out.2.1 hb5.out) hb6, boxed_later (boxed_later hb4.out.2.2.1 hb5.out) hb6, boxed_later (boxed_later hb4.out.2.2.2 hb5.out) hb6, hRu⟩
      have hB6 : Below w.heap.size w w6 := kept_trans hB5.out hb6
      have hS3 : w.heap.size + 3 < w6.heap.size := (Array.getElem?_eq_some_iff.1 hCB.2.2.2.1).1
      clear hRu c0 c1 d0 d1 hC hC2 hp5 hpt hb5 hb6 hb4 hB5 hb0 hRul
      refine wp_loop (CkI w P Q A a n c win L) (fun a' _ => (7 - intOf (a'.tmps.getD 15 undef)).toNat) ⟨0, _, _, _, _, _, _, _, _, _, _, [], by omega, rfl, trivial, hCB, hB6, fun j hj => by omega⟩ ?_
      rintro a' W ⟨k, u5, u6, u16, u17, u18, u19, u20, u21, u22, u33, ds, hk, rfl, hd, hCk, hBk, hkept⟩
      by_cases hk7 : k < 7
      · have hk7i : (k : Int) < 7 := by omega
        have hkc := hCk.2.2.2.2.cell hk7
        rw [ruleV_eq P Q k hk7] at hkc
        have c0 := hCk.1.c0
        clear hCB hB6
        have hk2 := ((Below.refl W.heap.size W).alloc (Nat.le_refl _) (.cells #[.int .i64 k] 3)).alloc (by simp) (.cells #[.func (.func (ruleG k)) #[] (ruleLb P Q k)] 82)
        have c0' := (hCk.later hk2).1.c0
        go_wp2_with ((with_reducible refine (all_any _ _ _ _).mono ?_); rintro e w' ⟨rfl, rfl⟩)
        refine (wpIn_wide (n := 9)).1 ?_
        have hE0 : CrI w P Q A a n c win L k W.heap.size ds 0 (((W.alloc (.cells #[.int .i64 k] 3)).alloc (.cells #[.func (.func (ruleG k)) #[] (ruleLb P Q k)] 82)).alloc (.cells #[.slice a n c] 22)) := by
          have hk3 := kept_alloc hk2 (.cells #[.slice a n c] 22)
          obtain ⟨g1, g2, g3, g4, ⟨g5, -, -⟩, g6, g7⟩ := hCk.later hk3
          refine ⟨g1, g2, g3, g4, g5, g6, g7, ?_, ?_, ?_, kept_trans hBk hk3, hd.later hk3, fun i s hi => by omega⟩
          · have := ((Boxed.new W 3 (.int .i64 k)).alloc (.cells #[.func (.func (ruleG k)) #[] (ruleLb P Q k)] 82)).alloc (.cells #[.slice a n c] 22)
            exact this
          · have t1 := World.alloc_heap_new (W.alloc (.cells #[.int .i64 k] 3)) (.cells #[.func (.func (ruleG k)) #[] (ruleLb P Q k)] 82)
            rw [World.size_alloc] at t1
            exact (Below.heap_alloc ((W.alloc (.cells #[.int .i64 k] 3)).alloc (.cells #[.func (.func (ruleG k)) #[] (ruleLb P Q k)] 82)) (.cells #[.slice a n c] 22) (W.heap.size + 1) (by simp)).trans t1
          · have := World.alloc_heap_new ((W.alloc (.cells #[.int .i64 k] 3)).alloc (.cells #[.func (.func (ruleG k)) #[] (ruleLb P Q k)] 82)) (.cells #[.slice a n c] 22)
            rw [World.size_alloc, World.size_alloc] at this
            exact this
        have hdl := hd.lt
        have hsz3 : (((W.alloc (.cells #[.int .i64 k] 3)).alloc (.cells #[.func (.func (ruleG k)) #[] (ruleLb P Q k)] 82)).alloc (.cells #[.slice a n c] 22)).heap.size = W.heap.size + 3 := by simp
        have hwW : w.heap.size ≤ W.heap.size := hBk.size
        clear c0 c0' hkc hk2 hCk hBk
        generalize (((W.alloc (.cells #[.int .i64 k] 3)).alloc (.cells #[.func (.func (ruleG k)) #[] (ruleLb P Q k)] 82)).alloc (.cells #[.slice a n c] 22)) = W0 at *
        generalize W.heap.size = E at *
        have hdW0 : ∀ D, ({ target := .collected D, args := #[] } : Deferred) ∈ ds → D < W0.heap.size := fun D hD => by have := hdl D hD; omega
        refine wpIn_rangeFunc_rowT rfl (by omega) (gf := 84) (lb := #[ptr (E + 2)]) rfl trivial (enters_of Tryz.func84 (by kernel_rfl) rfl)
          (all_tells 8 (E + 2) (by omega) a n c L (by omega) W0) (Below.refl _ _) (fun k hk => allRow_size hk)
          (CrI w P Q A a n c win L k E ds) (CrO w r1 r2 r3 ds) (CrI.own w P Q A a n c win L k E ds _ (by omega) hdW0) (CrO.own w r1 r2 r3 ds _ (by omega) hdW0) (fun j X h' => ⟨h'.2.2.2.2.2.2.2.2.2.1, hl, h.later h'.2.2.2.2.2.2.2.2.2.2.1⟩) (fun _ _ h => trivial)
          hE0
          (fun j a' X => ∃ (s : Sp) (a2 : Option Addr) (m c2 p : Nat), L[j]? = some (s, .slice a2 m c2) ∧ SpBox p s (.slice a2 m c2) X ∧ w.heap.size + 3 < p ∧
            a' = { tmps := #[ptV (.slice a n c) win, ptr w.heap.size, ptr (w.heap.size + 1), ptr (w.heap.size + 2), ptr (w.heap.size + 3), ptr E, ptr (E + 1), .int .i64 j, ptr p, ptV (.slice a n c) win, .bool true, .bool false, ptV (.slice a n c) win, .slice (some ⟨A, 0, none⟩) 7 7, .int .i64 7, .int .i64 k, .bool true, .int .i64 k, .pointer (some ⟨A, k, none⟩), .func (.func (ruleG k)) #[] (ruleLb P Q k), ptr w.heap.size, .slice a n c, .func (.func 84) #[] #[ptr (E + 2)], .int .i64 j, spV s (.slice a2 m c2), undef, undef, undef, undef, undef, undef, undef, undef, u33, undef, undef, undef], defers := [] })
          ?ax ?assign ?body ?done ?stop
        case ax =>
          rintro j a' ⟨⟩ X Y row ⟨s, a2, m, c2, p, h1, h2, h3, h4⟩ hg hrow
          exact ⟨s, a2, m, c2, p, h1, ownFrom_block p (fun _ : Unit => _) 45 _ () X Y row h2 hg hrow, h3, h4⟩
        case assign =>
          intro l j X K hj hI hK
          rw [allRow_len] at hj
          obtain ⟨⟨s, v⟩, hx⟩ := sps_i (L := L) (i := j) hj
          rw [allRow_at hx]
          unfold spV
          obtain ⟨a2, c2, e2, -⟩ := h.2 _ (List.mem_of_getElem? hx)
          dsimp only at e2
          obtain ⟨m, hmm⟩ : ∃ m, s.cs.length = m := ⟨_, rfl⟩
          rw [hmm] at e2
          subst e2
          have hk1 := kept_new X (.cells #[.bool s.neg, .int .i64 s.kind, .int .i64 s.min, .int .i64 s.max, .bool s.strict, .slice a2 m c2] 45)
          have hI1 := hI.later hk1
          have hsp := SpBox.new X s (.slice a2 m c2)
          have hlt := (Array.getElem?_eq_some_iff.1 hI.2.2.2.1).1
          replace hx := Lib.hid hx
          clear hmm
          gi_wp2
          exact hK _ _ (keeps_of_below hk1) (KeepsT.of_below hk1) hI1 ⟨s, _, _, _, _, hx.out, hsp, hlt, rfl⟩
        case body =>
          rintro l j a' X hj hI ⟨s, a2, m, c2, p, hx, hsp, hp, rfl⟩
          have hCB := hI.ckb hl h
          have hss := map_fst hx
          have hrs := right_step hR.out hss
          have hC := rule_any k hk7 j P Q A a n c win L s a2 m c2 X hx (by omega) (hm _ (List.mem_of_getElem? hx)) hrs hCB.2.2.2.2
          obtain ⟨q0, q1, q2, q3, q4, q5⟩ := hsp.cells
          have b5 := hI.2.2.2.2.2.2.2.1.cell
          have b6 : X.cell? ⟨E + 1, 0, none⟩ = some (.func (.func (ruleG k)) #[] (ruleLb P Q k)) := by have := hI.2.2.2.2.2.2.2.2.1; simp [World.cell?, this]
          have hlat := Lib.hid (fun Y (hY : Below X.heap.size X Y) => hI.later hY)
          have hall := Lib.hid hI.2.2.2.2.2.2.2.2.2.2.2.2
          cases hok : ruleB (L.map (·.1)) win k j s with
          | true =>
            rw [hok] at hC
            have hnx : Hid (∀ i t, i < j + 1 → (L.map (·.1))[i]? = some t → ruleB (L.map (·.1)) win k i t = true) := fun i t hi ht => by
              by_cases e : i = j
              · subst e; rw [hss] at ht; cases ht; exact hok
              · exact hall.out i t (by omega) ht
            clear hok hss hrs hx hsp hI hCB hT
            replace hC := Lib.hid hC
            have hk' : k = 0 ∨ k = 1 ∨ k = 2 ∨ k = 3 ∨ k = 4 ∨ k = 5 ∨ k = 6 := by omega
            clear hall b5 hkept
            rcases hk' with rfl | rfl | rfl | rfl | rfl | rfl | rfl
            all_goals
              dsimp only [ruleG, ruleLb] at hC b6
              gi_wp2_with fail
              refine ⟨trivial, ((callsIn_wide (n := 6)).2 hC.out).mono ?_⟩
              rintro e w6 ⟨rfl, hb6⟩
              have hI6 := hlat.out _ hb6
              clear hC b6 hlat q0 q1 q2 q3 q4 q5
              gi_wp2
              exact ⟨keeps_of_below hb6, KeepsT.of_below hb6, hI6.1, hI6.2.1, hI6.2.2.1, hI6.2.2.2.1, hI6.2.2.2.2.1, hI6.2.2.2.2.2.1, hI6.2.2.2.2.2.2.1, hI6.2.2.2.2.2.2.2.1, hI6.2.2.2.2.2.2.2.2.1, hI6.2.2.2.2.2.2.2.2.2.1, hI6.2.2.2.2.2.2.2.2.2.2.1, hI6.2.2.2.2.2.2.2.2.2.2.2.1, hnx.out⟩
          | false =>
            rw [hok] at hC
            have hTT := hT.out
            rw [checkT_bad hR.out hk7 hkept hss hok hall.out] at hTT
            simp only [Prod.mk.injEq] at hTT
            obtain ⟨rfl, rfl, rfl⟩ := hTT
            clear hok hss hrs hx hsp hI hCB hT
            replace hC := Lib.hid hC
            have hk' : k = 0 ∨ k = 1 ∨ k = 2 ∨ k = 3 ∨ k = 4 ∨ k = 5 ∨ k = 6 := by omega
            clear hall hkept b5
            have hk0 : (0 : Int) ≤ k := by omega
            generalize hkk : (k : Int) = kk at *
            replace hkk := Lib.hid hkk
            rcases hk' with rfl | rfl | rfl | rfl | rfl | rfl | rfl
            all_goals
              dsimp only [ruleG, ruleLb] at hC b6
              gi_wp2_with fail
              refine ⟨trivial, ((callsIn_wide (n := 6)).2 hC.out).mono ?_⟩
              rintro e w6 ⟨rfl, hb6⟩
              have hI6 := hlat.out _ hb6
              have c5 := hI6.2.2.2.2.2.2.2.1.cell
              rw [hkk.out] at c5
              obtain ⟨hd3, hB3, k1, k2, k3⟩ := three_set hI6.2.2.2.2.2.2.2.2.2.2.2.1 hI6.2.1 hI6.2.2.1 hI6.2.2.2.1 hI6.2.2.2.2.2.2.2.2.2.2.1 (kk + 1) j 110
              have c1 := hI6.2.1.cell
              have f1 := hI6.2.1.frozen
              have c2 := hI6.2.2.1.cell
              have f2 := hI6.2.2.1.frozen
              have c3 := hI6.2.2.2.1.cell
              have f3 := hI6.2.2.2.1.frozen
              have hks : KeepsFrom W0.heap.size w6 (((w6.setCell ⟨w.heap.size + 1, 0, none⟩ (.int .i64 (kk + 1))).setCell ⟨w.heap.size + 2, 0, none⟩ (.int .i64 j)).setCell ⟨w.heap.size + 3, 0, none⟩ (.int .i64 110)) := (((KeepsOthers.setCell _ _ _).trans (KeepsOthers.setCell _ _ _)).trans (KeepsOthers.setCell _ _ _)).from _
              replace hks := Lib.hid hks
              replace hd3 := Lib.hid hd3
              replace hB3 := Lib.hid hB3
              replace k1 := Lib.hid k1
              replace k2 := Lib.hid k2
              replace k3 := Lib.hid k3
              replace hb6 := Lib.hid hb6
              clear hC b6 hlat q0 q1 q2 q3 q4 q5 hI6
              gi_wp2
              refine wpIn_goto ?_
              exact ⟨(keeps_of_below hb6.out).trans hks.out, rfl, k1.out, k2.out, k3.out, hB3.out, hd3.out⟩
        case done =>
          rintro D X hD hI hK
          have hdX := hI.2.2.2.2.2.2.2.2.2.2.2.1.more (D := D) (by omega) hK (fun D' hD' => by have := hdW0 D' hD'; omega)
          have hCB := hI.ckb hl h
          have hall := hI.2.2.2.2.2.2.2.2.2.2.2.2
          rw [allRow_len] at hall
          have hnx : Hid (∀ j, j < k + 1 → KeptAll (L.map (·.1)) win j) := fun j hj => by
            by_cases e : j = k
            · subst e; exact fun i s hs => hall i s (by have := (List.getElem?_eq_some_iff.1 hs).1; simpa using this) hs
            · exact hkept j (by omega)
          have hB := hI.2.2.2.2.2.2.2.2.2.2.1
          clear hall hT hI
          go_wp2
          rw [show (k : Int) + 1 = ((k + 1 : Nat) : Int) by push_cast; rfl]
          exact ⟨⟨k + 1, _, _, _, _, _, _, _, _, _, _, _, by omega, rfl, hdX, hCB, hB, hnx.out⟩, by simp [intOf]; omega⟩
        case stop =>
          rintro D c' X hD ⟨rfl, h1, h2, h3, hB, hd'⟩ hK
          have hdX := hd'.more (D := D) (by omega) hK (fun D' hD' => by have := hdW0 D' hD'; omega)
          refine wpIn_goto ?_
          exact ⟨rfl, _, _, _, _, _, _, _, _, _, _, _, _, _, _, _, _, _, _, _, _, _, _, rfl, hdX, h1, h2, h3, hB⟩
      · obtain rfl : k = 7 := by omega
        have hTT := hT.out
        rw [checkT_ok hR.out hkept] at hTT
        simp only [Prod.mk.injEq] at hTT
        obtain ⟨rfl, rfl, rfl⟩ := hTT
        obtain ⟨h1, h2, h3, h4, h5⟩ := hCk
        have f1 := h2.frozen
        have f2 := h3.frozen
        have f3 := h4.frozen
        have c1 := h2.cell
        have c2 := h3.cell
        have c3 := h4.cell
        obtain ⟨hd3, hB3, k1, k2, k3⟩ := three_set hd h2 h3 h4 hBk 0 0 0
        have x2 := (boxed_far h3 (show w.heap.size + 2 ≠ w.heap.size + 1 by omega) 0 (.int .i64 0)).frozen
        clear hCB hB6
        go_wp2
        rw [jump_ret]
        exact ck_end _ ds rfl rfl rfl hd3 k1 k2 k3 hB3
  · rintro a' W ⟨u0, u1, u5, u6, u7, u8, u9, u10, u11, u12, u13, u14, u15, u16, u17, u18, u19, u20, u21, u22, u33, ds, rfl, hd, h1, h2, h3, hB⟩
    have c1 := h1.cell
    have f1 := h1.frozen
    have c2 := h2.cell
    have f2 := h2.frozen
    have c3 := h3.cell
    have f3 := h3.frozen
    go_wp2
    go_region
    go_wp2
    rw [jump_ret]
    obtain ⟨hd3, hB3, k1, k2, k3⟩ := three_set hd h1 h2 h3 hB r1 r2 r3
    exact ck_end _ ds rfl rfl rfl (hd3.keeps (fun D _ _ h => h)) k1 k2 k3 hB3.drew
end Go.Proofs.YtccmnngeibpcmaaGreat.Tree
