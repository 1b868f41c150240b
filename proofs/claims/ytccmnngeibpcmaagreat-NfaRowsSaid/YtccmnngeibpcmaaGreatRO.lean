/-
  Contracts of namesOf and of the iterator that it hands back.
-/
import Derived.Test.YtccmnngeibpcmaaGreatRN
namespace Go.Proofs.YtccmnngeibpcmaaGreat.Tree
open Go.ChangeShapes Go.WideShapes Go.ChangeAt Go.RowKit
set_option linter.unusedVariables false
set_option linter.unusedSimpArgs false
attribute [local go_sem] Oper.semAt_some
/-- A term in a box. -/
def TmBox (p : Nat) (t : Tm) (w : World) : Prop := w.heap[p]? = some (.cells #[.int .u8 t.k, .int .i64 t.n, .int .i64 t.s, .int .i64 t.r] 93 (0, 0))
theorem TmBox.new (w : World) (t : Tm) : TmBox w.heap.size t (w.alloc (.cells #[.int .u8 t.k, .int .i64 t.n, .int .i64 t.s, .int .i64 t.r] 93)) := World.alloc_heap_new w _
theorem TmBox.lt {p : Nat} {t : Tm} {w : World} (h : TmBox p t w) : p < w.heap.size := (Array.getElem?_eq_some_iff.1 h).1
theorem TmBox.later {p : Nat} {t : Tm} {w w' : World} (h : TmBox p t w) (hb : Below w.heap.size w w') : TmBox p t w' := (hb.block _ h.lt).trans h
theorem TmBox.c {p : Nat} {t : Tm} {w : World} (h : TmBox p t w) : w.cell? ⟨p, 0, none⟩ = some (.int .u8 t.k) ∧ w.cell? ⟨p, 1, none⟩ = some (.int .i64 t.n) ∧ w.cell? ⟨p, 2, none⟩ = some (.int .i64 t.s) ∧ w.cell? ⟨p, 3, none⟩ = some (.int .i64 t.r) := by
  unfold TmBox at h
  refine ⟨?_, ?_, ?_, ?_⟩ <;> simp [World.cell?, h]
/-- Two numbers in an array. -/
def ArBox (p : Nat) (a b : Int) (w : World) : Prop := w.heap[p]? = some (.cells #[.int .i64 a, .int .i64 b] 123 (0, 0))
theorem ArBox.c {p : Nat} {a b : Int} {w : World} (h : ArBox p a b w) : w.cell? ⟨p, 0, none⟩ = some (.int .i64 a) ∧ w.cell? ⟨p, 1, none⟩ = some (.int .i64 b) := by
  unfold ArBox at h
  refine ⟨?_, ?_⟩ <;> simp [World.cell?, h]
def nameRow (t : Tm) : List (Array Value) := (namesT t).map fun x => #[.int .i64 x]
theorem nameRow_len (t : Tm) : (nameRow t).length = (namesT t).length := by simp [nameRow]
theorem names_len (t : Tm) : (namesT ⟨t.k, 0, 0, 0⟩).length = (namesT t).length := by
  unfold namesT; split; rfl; split <;> rfl
theorem names_le (t : Tm) : (namesT t).length ≤ 2 := by
  unfold namesT; split; simp; split <;> simp
theorem names_at (t : Tm) (j : Nat) (h : j < (namesT t).length) : (j = 0 ∧ (nameRow t)[j]?.getD #[] = #[.int .i64 t.s] ∧ (namesT t)[j]? = some t.s) ∨ (j = 1 ∧ (nameRow t)[j]?.getD #[] = #[.int .i64 t.r] ∧ (namesT t)[j]? = some t.r) := by
  unfold nameRow namesT at *
  split at h
  · simp at h
  · rename_i h0
    simp only [h0, if_false]
    split at h
    · rename_i h5
      simp only [h5, if_true]
      match j, h with
      | 0, _ => left; simp
      | 1, _ => right; simp
    · rename_i h5
      simp only [h5, if_false]
      match j, h with
      | 0, _ => left; simp
set_option maxHeartbeats 400000 in
theorem namesOf_any (t : Tm) (w : World) :
    Calls Tryz.prog 103 #[tmV t] w fun e w' => e = .returned (.func (.func 109) #[] #[.pointer (some ⟨w.heap.size, 0, none⟩)]) ∧ w' = w.alloc (.cells #[.int .u8 t.k, .int .i64 t.n, .int .i64 t.s, .int .i64 t.r] 93) := by
  go_enter Tryz.func103, Tryz.ntmps103
  go_wp2
  go_ret
  exact ⟨rfl, rfl⟩
set_option maxRecDepth 100000 in
set_option maxHeartbeats 1000000 in
theorem names_tells (n B : Nat) (hn : 1 ≤ n) (t : Tm) (w : World) :
    TellsRowT True Fence.wide n Tryz.prog 109 #[.pointer (some ⟨B, 0, none⟩)] (TmBox B t) 123 (nameRow t) w := by
  intro l J Jx W hW hK hDr hY h0
  clear hW
  rw [nameRow_len] at *
  have hml := names_le t
  have hH := Lib.hid (fun w => howMany_any t.k w)
  rw [names_len] at hH
  have hat := Lib.hid (names_at t)
  replace hY := Lib.hid hY
  replace hDr := Lib.hid hDr
  replace hK := Lib.hid hK
  generalize (namesT t).length = m at *
  obtain ⟨d0, -⟩ := ((hK.out _ _ h0).later (kept_new W (.cells #[.int .i64 t.s, .int .i64 t.r] 123))).c
  obtain ⟨c0, c1, c2, c3⟩ := (hK.out _ _ h0).c
  refine callsIn_of_wp Tryz.func109 rfl trivial ?_ rfl
  simp only [Tryz.ntmps109, List.size_toArray, List.length_cons, List.length_nil, Nat.reduceAdd, Nat.reduceSub, Array.replicate_succ, Array.replicate_zero, List.push_toArray, List.append_toArray, List.nil_append, List.cons_append]
  gi_wp2_with fail
  refine ⟨trivial, ((callsIn_wide (n := n - 1)).2 (hH.out _)).mono ?_⟩
  rintro e w1 ⟨rfl, rfl⟩
  have hb := kept_new W (.cells #[.int .i64 t.s, .int .i64 t.r] 123)
  have hA : ArBox W.heap.size t.s t.r (W.alloc (.cells #[.int .i64 t.s, .int .i64 t.r] 123)) := World.alloc_heap_new W _
  have h1 := hDr.out _ _ _ h0 hb
  clear h0 hb c0 c1 c2 c3 d0
  generalize W.alloc (.cells #[.int .i64 t.s, .int .i64 t.r] 123) = W1 at *
  generalize W.heap.size = A at *
  have hm2 : (m : Int) ≤ 2 := by omega
  gi_wp2_with fail
  gi_loopw [16] (fun u wr => ∃ j : Nat, j ≤ m ∧ u = .int .i64 j ∧ ArBox A t.s t.r wr ∧ J j wr) (fun u _ => m - (intOf u).toNat)
  case atStart => exact ⟨0, Nat.zero_le _, rfl, hA, h1⟩
  case round =>
    clear hA h1 hDr hK
    obtain ⟨j, hj, rfl, hA, hJs⟩ := hrel
    obtain ⟨a0, a1⟩ := hA.c
    by_cases hlt : j < m
    · have hlti : (j : Int) < m := by omega
      have hYj := hY.out j hlt wr hJs
      have hfin : Hid (∀ W', KeepsT 123 wr W' → ArBox A t.s t.r W') := fun W' hk => hk _ _ _ hA
      clear hA
      rcases hat.out j hlt with ⟨rfl, e, -⟩ | ⟨rfl, e, -⟩
      all_goals
        rw [e] at hYj
        obtain ⟨fn, tmps, assign, body, hy, hR⟩ := hYj
        clear e
        gi_wp2
        refine hR.mono ?_
        rintro e W3 (⟨rfl, hkt, hJ3⟩ | ⟨-, rfl, hJx3⟩)
        · gi_wp2
          go_roundw
          case rel => exact ⟨_, hlt, by go_num, hfin.out _ hkt, hJ3⟩
          case measure => simp [intOf]; omega
        · gi_wp2
          refine bodyPost_ret (results_none rfl _ _ _) rfl ?_
          exact ⟨⟨_, rfl⟩, .inr ⟨_, hJx3⟩⟩
    · obtain rfl : j = m := by omega
      gi_wp2
      go_end0
      exact ⟨⟨_, rfl⟩, .inl hJs⟩
end Go.Proofs.YtccmnngeibpcmaaGreat.Tree
