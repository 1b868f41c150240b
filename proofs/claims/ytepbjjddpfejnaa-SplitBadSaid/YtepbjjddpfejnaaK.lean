/-
  Contracts of record's tell at events, at marks and at a record of no kind; condition: what the functions that tellers lays answer.
-/
import Derived.Test.YtepbjjddpfejnaaJ
namespace Go.Proofs.Ytepbjjddpfejnaa
open Go.ChangeShapes Go.WideShapes Go.ChangeAt Go.RowKit
set_option linter.unusedVariables false
set_option linter.unusedSimpArgs false
attribute [local go_sem] Oper.semAt_some
/-- What tell tells lies at block T. -/
def ToldAt (W : World) (T : Nat) (b : Bool) (s t : Int) : Prop := W.cell? ⟨T, 0, none⟩ = some (.bool b) ∧ W.cell? ⟨T, 1, none⟩ = some (.int .i64 s) ∧ W.cell? ⟨T, 2, none⟩ = some (.int .i64 t)
def TellOut (w : World) (T : Nat) (b : Bool) (s t : Int) (c : Code) (W : World) : Prop := c = .ret ∧ Below w.heap.size w W ∧ ToldAt W T b s t
theorem TellOut_own (w : World) (T : Nat) (b : Bool) (s t : Int) (B : Nat) (hB : w.heap.size ≤ B) : OwnFrom B (TellOut w T b s t) := by
  rintro c X Y row ⟨hc, hb, h0, h1, h2⟩ hg hr
  exact ⟨hc, ownFrom_below (Nat.le_refl _) hB c X Y row hb hg hr, cell_kept h0 hg (fun r e => (hr r e).2), cell_kept h1 hg (fun r e => (hr r e).2), cell_kept h2 hg (fun r e => (hr r e).2)⟩
def TellIn (W0 : World) (m k : Nat) (W : World) : Prop := k ≤ m ∧ Below W0.heap.size W0 W
theorem TellIn_own (W0 : World) (m B : Nat) (hB : W0.heap.size ≤ B) : OwnFrom B (TellIn W0 m) := by
  rintro k X Y row ⟨hk, hb⟩ hg hr
  exact ⟨hk, ownFrom_below (Nat.le_refl _) hB k X Y row hb hg hr⟩
theorem keeps_of_below {B : Nat} {W W' : World} (h : Below W.heap.size W W') : KeepsFrom B W W' :=
  ⟨h.size, fun k o _ hk _ => (h.block k (Array.getElem?_eq_some_iff.1 hk).1).trans hk⟩
set_option maxRecDepth 100000 in
set_option maxHeartbeats 2000000 in
theorem tell_event (ts src seq ek : Int) (p q : Nat) (b : Bool) (hT : ∀ (B : Nat) (w : World), RecAt w B 1 ts src seq ek p q 0 0 → Calls Try.prog 52 #[.pointer (some ⟨B, 0, none⟩)] w fun e w' => e = .returned (.agg #[.bool b, .int .i64 src, .int .i64 ts]) ∧ Below w.heap.size w w') (w : World) :
    Calls Try.prog 41 #[RV 1 ts src seq ek p q 0 0] w fun e w' => e = .returned (.agg #[.bool b, .int .i64 src, .int .i64 ts]) ∧ Below w.heap.size w w' := by
  have HT := Lib.hid hT
  clear hT
  refine (callsIn_wide (n := 9)).1 ?_
  refine callsIn_of_wp_marks Try.func41 rfl trivial ?_ rfl
  rw [wpIn_wide]
  simp only [Try.ntmps41, List.size_toArray, List.length_cons, List.length_nil, Nat.reduceAdd, Nat.reduceSub, Array.replicate_succ, Array.replicate_zero, List.push_toArray, List.append_toArray, List.nil_append, List.cons_append]
  go_wp2_with fail
  (with_reducible refine (tellers_any _ _ _ _ _ _ _ _ _ _).mono ?_)
  rintro e w1 ⟨rfl, rfl⟩
  go_wp2_with fail
  (with_reducible refine (kinds_any _).mono ?_)
  rintro e w1 ⟨rfl, rfl⟩
  go_wp2_with fail
  obtain ⟨W0, hW0⟩ : ∃ W0, (((((w.alloc (.cells #[.int .u8 1, .int .i64 ts, .int .i64 src, .int .i64 seq, .int .i64 ek, .complex .f64 p q, .int .i64 0, .int .i64 0] 42)).alloc (.cells #[.bool false, .int .i64 0, .int .i64 0] 76)).alloc (.cells #[.int .u8 1, .int .i64 ts, .int .i64 src, .int .i64 seq, .int .i64 ek, .complex .f64 p q, .int .i64 0, .int .i64 0] 42)).alloc (tellMap (w.heap.size + 1 + 1))).alloc (.cells #[.map (some (w.heap.size + 1 + 1 + 1))] 84)) = W0 := ⟨_, rfl⟩
  have hsz : W0.heap.size = w.heap.size + 5 := by rw [← hW0]; simp
  have r0 : RecAt W0 w.heap.size 1 ts src seq ek p q 0 0 := by
    rw [← hW0]
    exact (RecAt.new w 1 ts src seq ek p q 0 0).later (((((Below.refl _ _).alloc (Nat.le_refl _) _).alloc (by simp) _).alloc (by simp <;> omega) _).alloc (by simp <;> omega) _)
  have hbel : Below w.heap.size w W0 := by
    rw [← hW0]
    exact (((((Below.refl _ _).alloc (Nat.le_refl _) _).alloc (by simp) _).alloc (by simp <;> omega) _).alloc (by simp <;> omega) _).alloc (by simp <;> omega) _
  have r2 : RecAt W0 (w.heap.size + 1 + 1) 1 ts src seq ek p q 0 0 := by
    rw [← hW0]
    have h := (RecAt.new ((w.alloc (.cells #[.int .u8 1, .int .i64 ts, .int .i64 src, .int .i64 seq, .int .i64 ek, .complex .f64 p q, .int .i64 0, .int .i64 0] 42)).alloc (.cells #[.bool false, .int .i64 0, .int .i64 0] 76)) 1 ts src seq ek p q 0 0).later (((Below.refl _ _).alloc (Nat.le_refl _) (tellMap (w.heap.size + 1 + 1))).alloc (by simp) (.cells #[.map (some (w.heap.size + 1 + 1 + 1))] 84))
    simpa using h
  have hv : W0.cell? ⟨w.heap.size + 1 + 1 + 1 + 1, 0, none⟩ = some (.map (some (w.heap.size + 1 + 1 + 1))) := by rw [← hW0]; simp [go_sem]
  have hm : W0.heap[w.heap.size + 1 + 1 + 1]? = some (tellMap (w.heap.size + 1 + 1)) := by
    rw [← hW0, Below.heap_alloc _ _ _ (by simp)]
    have := World.alloc_heap_new (((w.alloc (.cells #[.int .u8 1, .int .i64 ts, .int .i64 src, .int .i64 seq, .int .i64 ek, .complex .f64 p q, .int .i64 0, .int .i64 0] 42)).alloc (.cells #[.bool false, .int .i64 0, .int .i64 0] 76)).alloc (.cells #[.int .u8 1, .int .i64 ts, .int .i64 src, .int .i64 seq, .int .i64 ek, .complex .f64 p q, .int .i64 0, .int .i64 0] 42)) (tellMap (w.heap.size + 1 + 1))
    simpa using this
  have ht : ToldAt W0 (w.heap.size + 1) false 0 0 := by rw [← hW0]; simp [ToldAt, go_sem]
  have htf : W0.frozen? ⟨w.heap.size + 1, 0, none⟩ = false ∧ W0.frozen? ⟨w.heap.size + 1, 1, none⟩ = false ∧ W0.frozen? ⟨w.heap.size + 1, 2, none⟩ = false := by rw [← hW0]; simp [go_sem]
  rw [hW0]
  clear hW0
  refine (wpIn_wide (n := 9)).1 ?_
  refine wpIn_rangeFunc_row rfl (by omega) (gf := 56) (lb := #[]) rfl trivial (enters_of Try.func56 (by kernel_rfl) rfl)
    (kinds_tells 8 (by omega) W0) (Below.refl _ _) (fun k hk => by rcases (show k = 0 ∨ k = 1 by simp [kindRow] at hk; omega) with rfl | rfl <;> rfl)
    (TellIn W0 0) (TellOut w (w.heap.size + 1) b src ts) (TellIn_own W0 _ _ (Nat.le_refl _)) (TellOut_own _ _ _ _ _ _ (by omega)) (fun _ _ _ => trivial)
    ⟨Nat.le_refl _, Below.refl _ _⟩
    (fun k => { tmps := #[RV 1 ts src seq ek p q 0 0, .pointer (some ⟨w.heap.size, 0, none⟩), .pointer (some ⟨w.heap.size + 1, 0, none⟩), .pointer (some ⟨w.heap.size + 1 + 1 + 1 + 1, 0, none⟩), .int .u8 (k + 1), .agg #[.int .u8 1, .int .i64 ts, .int .i64 src, .int .i64 seq, .int .i64 ek, .complex .f64 p q, .int .i64 0, .int .i64 0], .map (some (w.heap.size + 1 + 1 + 1)), .func (.func 56) #[] #[], .int .u8 (k + 1), undef, undef, undef, undef, undef, undef, undef, undef, undef], defers := [] }) ?assign ?body ?done ?stop
  case assign =>
    intro l k W K hk hK
    rcases (show k = 0 ∨ k = 1 by simp [kindRow] at hk; omega) with rfl | rfl
    all_goals
      simp only [kindRow, List.getElem?_cons_zero, List.getElem?_cons_succ, Option.getD_some]
      gi_wp2
      exact hK
  case body =>
    rintro l k W hk ⟨hk0, hB⟩
    obtain rfl : k = 0 := by omega
    have hb0 := bcell hB r0.lt r0.c0
    have hvW := bcell hB (by omega) hv
    have hlk : (Instr.lookup 84 (.map (some (w.heap.size + 1 + 1 + 1))) (.int .u8 1) false).run Try.prog W = .ok (Teller 52 (w.heap.size + 1 + 1)) W := lookup_at ((hB.block _ (by omega)).trans hm) rfl
    have hrW := Lib.hid (HT.out _ _ (r2.later hB))
    have htW : ToldAt W (w.heap.size + 1) false 0 0 := ⟨bcell hB (by omega) ht.1, bcell hB (by omega) ht.2.1, bcell hB (by omega) ht.2.2⟩
    have hfW0 := bfrozen hB (by omega) htf.1
    have hfW1 := bfrozen hB (by omega) htf.2.1
    have hfW2 := bfrozen hB (by omega) htf.2.2
    have hszW : W0.heap.size ≤ W.heap.size := hB.size
    have HSZ := Lib.hid hsz
    clear hsz
    have hz2 : w.heap.size + 1 < W0.heap.size := by rw [HSZ.out]; omega
    gi_wp2_with fail
    refine ⟨trivial, ?_⟩
    refine (((callsIn_wide (n := 6)).2 hrW.out).inRound l).mono ?_
    rintro e W3 ⟨rfl, hb3⟩
    have hlW : w.heap.size + 1 < W.heap.size := Nat.lt_of_lt_of_le hz2 hszW
    have t0 := bcell hb3 hlW htW.1
    have t1 := bcell hb3 hlW htW.2.1
    have t2 := bcell hb3 hlW htW.2.2
    have f0 := bfrozen hb3 hlW hfW0
    have f1 := bfrozen hb3 hlW hfW1
    have f2 := bfrozen hb3 hlW hfW2
    clear hfW0 hfW1 hfW2 hvW hb0 hlk
    gi_wp2
    refine ⟨?_, rfl, ?_, ?_⟩
    · exact (keeps_of_below hb3).trans ((((KeepsOthers.setCell _ _ _).trans (KeepsOthers.setCell _ _ _)).trans (KeepsOthers.setCell _ _ _)).from _)
    · exact ((((hbel.trans (hB.mono (by rw [HSZ.out]; omega))).trans (hb3.mono (by have := hB.size; omega))).setCell (by simp) _).setCell (by simp) _).setCell (by simp) _
    · simp [ToldAt, go_sem, t0, t1, t2]
  case done =>
    rintro D W hD ⟨hk, hB⟩ hK
    exact absurd hk (by simp [kindRow])
  case stop =>
    rintro D c W hD ⟨rfl, hB, t0, t1, t2⟩ hK
    have hDw : w.heap.size ≤ D := by omega
    have hg := grownBy_putObj' W D (.deferred none)
    have hr : ∀ r, some D = some r → ∃ o : Obj, W.heap[r]? = some o ∧ o.isCells = false := fun r e => by cases e; exact ⟨_, hK, rfl⟩
    have c0 := cell_kept t0 hg hr
    have c1 := cell_kept t1 hg hr
    have c2 := cell_kept t2 hg hr
    have hbl := hB.trans (belowK_b (w := w) (Nat.le_refl _) W D _ (.deferred none) hDw hK rfl rfl)
    gi_wp2
    refine ⟨by simp, .inl ⟨_, _, rfl, run_takeDeferred hK, ?_⟩⟩
    clear t0 t1 t2
    generalize W.putObj D (.deferred none) = W4 at *
    exact ⟨.agg #[.bool b, .int .i64 src, .int .i64 ts], by simp [results, Try.results41, go_sem, c0, c1, c2], rfl, hbl⟩
set_option maxRecDepth 100000 in
set_option maxHeartbeats 2000000 in
theorem tell_mark (s t : Int) (b : Bool) (hT : ∀ (B : Nat) (w : World), RecAt w B 2 0 0 0 0 0 0 s t → Calls Try.prog 54 #[.pointer (some ⟨B, 0, none⟩)] w fun e w' => e = .returned (.agg #[.bool b, .int .i64 s, .int .i64 t]) ∧ Below w.heap.size w w') (w : World) :
    Calls Try.prog 41 #[RV 2 0 0 0 0 0 0 s t] w fun e w' => e = .returned (.agg #[.bool b, .int .i64 s, .int .i64 t]) ∧ Below w.heap.size w w' := by
  have HT := Lib.hid hT
  clear hT
  refine (callsIn_wide (n := 9)).1 ?_
  refine callsIn_of_wp_marks Try.func41 rfl trivial ?_ rfl
  rw [wpIn_wide]
  simp only [Try.ntmps41, List.size_toArray, List.length_cons, List.length_nil, Nat.reduceAdd, Nat.reduceSub, Array.replicate_succ, Array.replicate_zero, List.push_toArray, List.append_toArray, List.nil_append, List.cons_append]
  go_wp2_with fail
  (with_reducible refine (tellers_any _ _ _ _ _ _ _ _ _ _).mono ?_)
  rintro e w1 ⟨rfl, rfl⟩
  go_wp2_with fail
  (with_reducible refine (kinds_any _).mono ?_)
  rintro e w1 ⟨rfl, rfl⟩
  go_wp2_with fail
  obtain ⟨W0, hW0⟩ : ∃ W0, (((((w.alloc (.cells #[.int .u8 2, .int .i64 0, .int .i64 0, .int .i64 0, .int .i64 0, .complex .f64 0 0, .int .i64 s, .int .i64 t] 42)).alloc (.cells #[.bool false, .int .i64 0, .int .i64 0] 76)).alloc (.cells #[.int .u8 2, .int .i64 0, .int .i64 0, .int .i64 0, .int .i64 0, .complex .f64 0 0, .int .i64 s, .int .i64 t] 42)).alloc (tellMap (w.heap.size + 1 + 1))).alloc (.cells #[.map (some (w.heap.size + 1 + 1 + 1))] 84)) = W0 := ⟨_, rfl⟩
  have hsz : W0.heap.size = w.heap.size + 5 := by rw [← hW0]; simp
  have r0 : RecAt W0 w.heap.size 2 0 0 0 0 0 0 s t := by
    rw [← hW0]
    exact (RecAt.new w 2 0 0 0 0 0 0 s t).later (((((Below.refl _ _).alloc (Nat.le_refl _) _).alloc (by simp) _).alloc (by simp <;> omega) _).alloc (by simp <;> omega) _)
  have hbel : Below w.heap.size w W0 := by
    rw [← hW0]
    exact (((((Below.refl _ _).alloc (Nat.le_refl _) _).alloc (by simp) _).alloc (by simp <;> omega) _).alloc (by simp <;> omega) _).alloc (by simp <;> omega) _
  have r2 : RecAt W0 (w.heap.size + 1 + 1) 2 0 0 0 0 0 0 s t := by
    rw [← hW0]
    have h := (RecAt.new ((w.alloc (.cells #[.int .u8 2, .int .i64 0, .int .i64 0, .int .i64 0, .int .i64 0, .complex .f64 0 0, .int .i64 s, .int .i64 t] 42)).alloc (.cells #[.bool false, .int .i64 0, .int .i64 0] 76)) 2 0 0 0 0 0 0 s t).later (((Below.refl _ _).alloc (Nat.le_refl _) (tellMap (w.heap.size + 1 + 1))).alloc (by simp) (.cells #[.map (some (w.heap.size + 1 + 1 + 1))] 84))
    simpa using h
  have hv : W0.cell? ⟨w.heap.size + 1 + 1 + 1 + 1, 0, none⟩ = some (.map (some (w.heap.size + 1 + 1 + 1))) := by rw [← hW0]; simp [go_sem]
  have hm : W0.heap[w.heap.size + 1 + 1 + 1]? = some (tellMap (w.heap.size + 1 + 1)) := by
    rw [← hW0, Below.heap_alloc _ _ _ (by simp)]
    have := World.alloc_heap_new (((w.alloc (.cells #[.int .u8 2, .int .i64 0, .int .i64 0, .int .i64 0, .int .i64 0, .complex .f64 0 0, .int .i64 s, .int .i64 t] 42)).alloc (.cells #[.bool false, .int .i64 0, .int .i64 0] 76)).alloc (.cells #[.int .u8 2, .int .i64 0, .int .i64 0, .int .i64 0, .int .i64 0, .complex .f64 0 0, .int .i64 s, .int .i64 t] 42)) (tellMap (w.heap.size + 1 + 1))
    simpa using this
  have ht : ToldAt W0 (w.heap.size + 1) false 0 0 := by rw [← hW0]; simp [ToldAt, go_sem]
  have htf : W0.frozen? ⟨w.heap.size + 1, 0, none⟩ = false ∧ W0.frozen? ⟨w.heap.size + 1, 1, none⟩ = false ∧ W0.frozen? ⟨w.heap.size + 1, 2, none⟩ = false := by rw [← hW0]; simp [go_sem]
  rw [hW0]
  clear hW0
  refine (wpIn_wide (n := 9)).1 ?_
  refine wpIn_rangeFunc_row rfl (by omega) (gf := 56) (lb := #[]) rfl trivial (enters_of Try.func56 (by kernel_rfl) rfl)
    (kinds_tells 8 (by omega) W0) (Below.refl _ _) (fun k hk => by rcases (show k = 0 ∨ k = 1 by simp [kindRow] at hk; omega) with rfl | rfl <;> rfl)
    (TellIn W0 1) (TellOut w (w.heap.size + 1) b s t) (TellIn_own W0 _ _ (Nat.le_refl _)) (TellOut_own _ _ _ _ _ _ (by omega)) (fun _ _ _ => trivial)
    ⟨Nat.zero_le _, Below.refl _ _⟩
    (fun k => { tmps := #[RV 2 0 0 0 0 0 0 s t, .pointer (some ⟨w.heap.size, 0, none⟩), .pointer (some ⟨w.heap.size + 1, 0, none⟩), .pointer (some ⟨w.heap.size + 1 + 1 + 1 + 1, 0, none⟩), .int .u8 (k + 1), .agg #[.int .u8 2, .int .i64 0, .int .i64 0, .int .i64 0, .int .i64 0, .complex .f64 0 0, .int .i64 s, .int .i64 t], .map (some (w.heap.size + 1 + 1 + 1)), .func (.func 56) #[] #[], .int .u8 (k + 1), undef, undef, undef, undef, undef, undef, undef, undef, undef], defers := [] }) ?assign ?body ?done ?stop
  case assign =>
    intro l k W K hk hK
    rcases (show k = 0 ∨ k = 1 by simp [kindRow] at hk; omega) with rfl | rfl
    all_goals
      simp only [kindRow, List.getElem?_cons_zero, List.getElem?_cons_succ, Option.getD_some]
      gi_wp2
      exact hK
  case body =>
    rintro l k W hk ⟨hk0, hB⟩
    rcases (show k = 0 ∨ k = 1 by omega) with rfl | rfl
    · have hb0 := bcell hB r0.lt r0.c0
      clear r2 hv hm ht htf hsz
      gi_wp2
      exact ⟨KeepsFrom.refl _ _, Nat.le_refl _, hB⟩
    · have hb0 := bcell hB r0.lt r0.c0
      have hvW := bcell hB (by omega) hv
      have hlk : (Instr.lookup 84 (.map (some (w.heap.size + 1 + 1 + 1))) (.int .u8 2) false).run Try.prog W = .ok (Teller 54 (w.heap.size + 1 + 1)) W := lookup_at ((hB.block _ (by omega)).trans hm) rfl
      have hrW := Lib.hid (HT.out _ _ (r2.later hB))
      have htW : ToldAt W (w.heap.size + 1) false 0 0 := ⟨bcell hB (by omega) ht.1, bcell hB (by omega) ht.2.1, bcell hB (by omega) ht.2.2⟩
      have hfW0 := bfrozen hB (by omega) htf.1
      have hfW1 := bfrozen hB (by omega) htf.2.1
      have hfW2 := bfrozen hB (by omega) htf.2.2
      have hszW : W0.heap.size ≤ W.heap.size := hB.size
      have HSZ := Lib.hid hsz
      clear hsz
      have hz2 : w.heap.size + 1 < W0.heap.size := by rw [HSZ.out]; omega
      gi_wp2_with fail
      refine ⟨trivial, ?_⟩
      refine (((callsIn_wide (n := 6)).2 hrW.out).inRound l).mono ?_
      rintro e W3 ⟨rfl, hb3⟩
      have hlW : w.heap.size + 1 < W.heap.size := Nat.lt_of_lt_of_le hz2 hszW
      have t0 := bcell hb3 hlW htW.1
      have t1 := bcell hb3 hlW htW.2.1
      have t2 := bcell hb3 hlW htW.2.2
      have f0 := bfrozen hb3 hlW hfW0
      have f1 := bfrozen hb3 hlW hfW1
      have f2 := bfrozen hb3 hlW hfW2
      clear hfW0 hfW1 hfW2 hvW hb0 hlk
      gi_wp2
      refine ⟨?_, rfl, ?_, ?_⟩
      · exact (keeps_of_below hb3).trans ((((KeepsOthers.setCell _ _ _).trans (KeepsOthers.setCell _ _ _)).trans (KeepsOthers.setCell _ _ _)).from _)
      · exact ((((hbel.trans (hB.mono (by rw [HSZ.out]; omega))).trans (hb3.mono (by have := hB.size; omega))).setCell (by simp) _).setCell (by simp) _).setCell (by simp) _
      · simp [ToldAt, go_sem, t0, t1, t2]
  case done =>
    rintro D W hD ⟨hk, hB⟩ hK
    exact absurd hk (by simp [kindRow])
  case stop =>
    rintro D c W hD ⟨rfl, hB, t0, t1, t2⟩ hK
    have hDw : w.heap.size ≤ D := by omega
    have hg := grownBy_putObj' W D (.deferred none)
    have hr : ∀ r, some D = some r → ∃ o : Obj, W.heap[r]? = some o ∧ o.isCells = false := fun r e => by cases e; exact ⟨_, hK, rfl⟩
    have c0 := cell_kept t0 hg hr
    have c1 := cell_kept t1 hg hr
    have c2 := cell_kept t2 hg hr
    have hbl := hB.trans (belowK_b (w := w) (Nat.le_refl _) W D _ (.deferred none) hDw hK rfl rfl)
    gi_wp2
    refine ⟨by simp, .inl ⟨_, _, rfl, run_takeDeferred hK, ?_⟩⟩
    clear t0 t1 t2
    generalize W.putObj D (.deferred none) = W4 at *
    exact ⟨.agg #[.bool b, .int .i64 s, .int .i64 t], by simp [results, Try.results41, go_sem, c0, c1, c2], rfl, hbl⟩
set_option maxRecDepth 100000 in
set_option maxHeartbeats 2000000 in
theorem tell_none (w : World) :
    Calls Try.prog 41 #[RV 0 0 0 0 0 0 0 0 0] w fun e w' => e = .returned (.agg #[.bool false, .int .i64 (-1), .int .i64 (-1)]) ∧ Below w.heap.size w w' := by
  refine (callsIn_wide (n := 9)).1 ?_
  refine callsIn_of_wp_marks Try.func41 rfl trivial ?_ rfl
  rw [wpIn_wide]
  simp only [Try.ntmps41, List.size_toArray, List.length_cons, List.length_nil, Nat.reduceAdd, Nat.reduceSub, Array.replicate_succ, Array.replicate_zero, List.push_toArray, List.append_toArray, List.nil_append, List.cons_append]
  go_wp2_with fail
  (with_reducible refine (tellers_any _ _ _ _ _ _ _ _ _ _).mono ?_)
  rintro e w1 ⟨rfl, rfl⟩
  go_wp2_with fail
  (with_reducible refine (kinds_any _).mono ?_)
  rintro e w1 ⟨rfl, rfl⟩
  go_wp2_with fail
  obtain ⟨W0, hW0⟩ : ∃ W0, (((((w.alloc (.cells #[.int .u8 0, .int .i64 0, .int .i64 0, .int .i64 0, .int .i64 0, .complex .f64 0 0, .int .i64 0, .int .i64 0] 42)).alloc (.cells #[.bool false, .int .i64 0, .int .i64 0] 76)).alloc (.cells #[.int .u8 0, .int .i64 0, .int .i64 0, .int .i64 0, .int .i64 0, .complex .f64 0 0, .int .i64 0, .int .i64 0] 42)).alloc (tellMap (w.heap.size + 1 + 1))).alloc (.cells #[.map (some (w.heap.size + 1 + 1 + 1))] 84)) = W0 := ⟨_, rfl⟩
  have hsz : W0.heap.size = w.heap.size + 5 := by rw [← hW0]; simp
  have r0 : RecAt W0 w.heap.size 0 0 0 0 0 0 0 0 0 := by
    rw [← hW0]
    exact (RecAt.new w 0 0 0 0 0 0 0 0 0).later (((((Below.refl _ _).alloc (Nat.le_refl _) _).alloc (by simp) _).alloc (by simp <;> omega) _).alloc (by simp <;> omega) _)
  have hbel : Below w.heap.size w W0 := by
    rw [← hW0]
    exact (((((Below.refl _ _).alloc (Nat.le_refl _) _).alloc (by simp) _).alloc (by simp <;> omega) _).alloc (by simp <;> omega) _).alloc (by simp <;> omega) _
  have r2 : RecAt W0 (w.heap.size + 1 + 1) 0 0 0 0 0 0 0 0 0 := by
    rw [← hW0]
    have h := (RecAt.new ((w.alloc (.cells #[.int .u8 0, .int .i64 0, .int .i64 0, .int .i64 0, .int .i64 0, .complex .f64 0 0, .int .i64 0, .int .i64 0] 42)).alloc (.cells #[.bool false, .int .i64 0, .int .i64 0] 76)) 0 0 0 0 0 0 0 0 0).later (((Below.refl _ _).alloc (Nat.le_refl _) (tellMap (w.heap.size + 1 + 1))).alloc (by simp) (.cells #[.map (some (w.heap.size + 1 + 1 + 1))] 84))
    simpa using h
  have hv : W0.cell? ⟨w.heap.size + 1 + 1 + 1 + 1, 0, none⟩ = some (.map (some (w.heap.size + 1 + 1 + 1))) := by rw [← hW0]; simp [go_sem]
  have hm : W0.heap[w.heap.size + 1 + 1 + 1]? = some (tellMap (w.heap.size + 1 + 1)) := by
    rw [← hW0, Below.heap_alloc _ _ _ (by simp)]
    have := World.alloc_heap_new (((w.alloc (.cells #[.int .u8 0, .int .i64 0, .int .i64 0, .int .i64 0, .int .i64 0, .complex .f64 0 0, .int .i64 0, .int .i64 0] 42)).alloc (.cells #[.bool false, .int .i64 0, .int .i64 0] 76)).alloc (.cells #[.int .u8 0, .int .i64 0, .int .i64 0, .int .i64 0, .int .i64 0, .complex .f64 0 0, .int .i64 0, .int .i64 0] 42)) (tellMap (w.heap.size + 1 + 1))
    simpa using this
  have ht : ToldAt W0 (w.heap.size + 1) false 0 0 := by rw [← hW0]; simp [ToldAt, go_sem]
  have htf : W0.frozen? ⟨w.heap.size + 1, 0, none⟩ = false ∧ W0.frozen? ⟨w.heap.size + 1, 1, none⟩ = false ∧ W0.frozen? ⟨w.heap.size + 1, 2, none⟩ = false := by rw [← hW0]; simp [go_sem]
  rw [hW0]
  clear hW0
  refine (wpIn_wide (n := 9)).1 ?_
  refine wpIn_rangeFunc_row rfl (by omega) (gf := 56) (lb := #[]) rfl trivial (enters_of Try.func56 (by kernel_rfl) rfl)
    (kinds_tells 8 (by omega) W0) (Below.refl _ _) (fun k hk => by rcases (show k = 0 ∨ k = 1 by simp [kindRow] at hk; omega) with rfl | rfl <;> rfl)
    (TellIn W0 2) (fun _ _ => False) (TellIn_own W0 _ _ (Nat.le_refl _)) (fun _ _ _ _ hs _ _ => hs) (fun _ _ _ => trivial)
    ⟨Nat.zero_le _, Below.refl _ _⟩
    (fun k => { tmps := #[RV 0 0 0 0 0 0 0 0 0, .pointer (some ⟨w.heap.size, 0, none⟩), .pointer (some ⟨w.heap.size + 1, 0, none⟩), .pointer (some ⟨w.heap.size + 1 + 1 + 1 + 1, 0, none⟩), .int .u8 (k + 1), .agg #[.int .u8 0, .int .i64 0, .int .i64 0, .int .i64 0, .int .i64 0, .complex .f64 0 0, .int .i64 0, .int .i64 0], .map (some (w.heap.size + 1 + 1 + 1)), .func (.func 56) #[] #[], .int .u8 (k + 1), undef, undef, undef, undef, undef, undef, undef, undef, undef], defers := [] }) ?assign ?body ?done ?stop
  case assign =>
    intro l k W K hk hK
    rcases (show k = 0 ∨ k = 1 by simp [kindRow] at hk; omega) with rfl | rfl
    all_goals
      simp only [kindRow, List.getElem?_cons_zero, List.getElem?_cons_succ, Option.getD_some]
      gi_wp2
      exact hK
  case body =>
    rintro l k W hk ⟨hk0, hB⟩
    have hk1 : k = 0 ∨ k = 1 := by simp [kindRow] at hk; omega
    have hb0 := bcell hB r0.lt r0.c0
    clear r2 hv hm ht htf hsz
    rcases hk1 with rfl | rfl
    · gi_wp2
      exact ⟨KeepsFrom.refl _ _, by omega, hB⟩
    · gi_wp2
      exact ⟨KeepsFrom.refl _ _, by omega, hB⟩
  case done =>
    rintro D W hD ⟨hk, hB⟩ hK
    have htW : ToldAt W (w.heap.size + 1) false 0 0 := ⟨bcell hB (by omega) ht.1, bcell hB (by omega) ht.2.1, bcell hB (by omega) ht.2.2⟩
    obtain ⟨t0, t1, t2⟩ := htW
    have hfW0 := bfrozen hB (by omega) htf.1
    have hfW1 := bfrozen hB (by omega) htf.2.1
    have hfW2 := bfrozen hB (by omega) htf.2.2
    have hDw : w.heap.size + 5 ≤ D := by omega
    have hbW := hbel.trans (hB.mono (by omega))
    clear r0 r2 hv hm ht htf hbel hB hsz
    go_wp2
    have hb4 : Below w.heap.size w (((W.setCell ⟨w.heap.size + 1, 0, none⟩ (.bool false)).setCell ⟨w.heap.size + 1, 1, none⟩ (.int .i64 (-1))).setCell ⟨w.heap.size + 1, 2, none⟩ (.int .i64 (-1))) := ((hbW.setCell (by simp) _).setCell (by simp) _).setCell (by simp) _
    have c0 : (((W.setCell ⟨w.heap.size + 1, 0, none⟩ (.bool false)).setCell ⟨w.heap.size + 1, 1, none⟩ (.int .i64 (-1))).setCell ⟨w.heap.size + 1, 2, none⟩ (.int .i64 (-1))).cell? ⟨w.heap.size + 1, 0, none⟩ = some (.bool false) := by simp [go_sem, t0]
    have c1 : (((W.setCell ⟨w.heap.size + 1, 0, none⟩ (.bool false)).setCell ⟨w.heap.size + 1, 1, none⟩ (.int .i64 (-1))).setCell ⟨w.heap.size + 1, 2, none⟩ (.int .i64 (-1))).cell? ⟨w.heap.size + 1, 1, none⟩ = some (.int .i64 (-1)) := by simp [go_sem, t0, t1]
    have c2 : (((W.setCell ⟨w.heap.size + 1, 0, none⟩ (.bool false)).setCell ⟨w.heap.size + 1, 1, none⟩ (.int .i64 (-1))).setCell ⟨w.heap.size + 1, 2, none⟩ (.int .i64 (-1))).cell? ⟨w.heap.size + 1, 2, none⟩ = some (.int .i64 (-1)) := by simp [go_sem, t0, t1, t2]
    have hK4 : (((W.setCell ⟨w.heap.size + 1, 0, none⟩ (.bool false)).setCell ⟨w.heap.size + 1, 1, none⟩ (.int .i64 (-1))).setCell ⟨w.heap.size + 1, 2, none⟩ (.int .i64 (-1))).heap[D]? = some (.deferred (some [])) :=
      (((KeepsOthers.setCell _ _ _).trans (KeepsOthers.setCell _ _ _)).trans (KeepsOthers.setCell _ _ _)).same D _ hK rfl
    clear hbW hK t0 t1 t2 hfW0 hfW1 hfW2
    generalize ((W.setCell ⟨w.heap.size + 1, 0, none⟩ (.bool false)).setCell ⟨w.heap.size + 1, 1, none⟩ (.int .i64 (-1))).setCell ⟨w.heap.size + 1, 2, none⟩ (.int .i64 (-1)) = W3 at *
    have hg := grownBy_putObj' W3 D (.deferred none)
    have hr : ∀ r, some D = some r → ∃ o : Obj, W3.heap[r]? = some o ∧ o.isCells = false := fun r e => by cases e; exact ⟨_, hK4, rfl⟩
    have d0 := cell_kept c0 hg hr
    have d1 := cell_kept c1 hg hr
    have d2 := cell_kept c2 hg hr
    have hbl := hb4.trans (belowK_b (w := w) (Nat.le_refl _) W3 D _ (.deferred none) (by omega) hK4 rfl rfl)
    refine ⟨by simp, .inl ⟨_, _, rfl, run_takeDeferred hK4, ?_⟩⟩
    clear c0 c1 c2
    generalize W3.putObj D (.deferred none) = W4 at *
    exact ⟨.agg #[.bool false, .int .i64 (-1), .int .i64 (-1)], by simp [results, Try.results41, go_sem, d0, d1, d2], rfl, hbl⟩
  case stop =>
    rintro D c W hD h hK
    exact h.elim
end Go.Proofs.Ytepbjjddpfejnaa
