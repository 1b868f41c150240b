/-
  slices.All and slices.Backward at steps: contracts of both iterators.
-/
import Derived.Test.YtccmnngeibpcmaaGreatCB
namespace Go.Proofs.YtccmnngeibpcmaaGreat.Tree
open Go.ChangeShapes Go.WideShapes Go.ChangeAt Go.RowKit
set_option linter.unusedVariables false
set_option linter.unusedSimpArgs false
attribute [local go_sem] Oper.semAt_some
/-- A slice of steps in a box. -/
def SlIn (B : Nat) (a : Option Addr) (n c : Nat) (L : List (Sp × Value)) (W : World) : Prop := W.heap[B]? = some (.cells #[.slice a n c] 22 (0, 0)) ∧ L.length = n ∧ SpsL W (.slice a n c) L
theorem SlIn.lt {B : Nat} {a : Option Addr} {n c : Nat} {L : List (Sp × Value)} {W : World} (h : SlIn B a n c L W) : B < W.heap.size := (Array.getElem?_eq_some_iff.1 h.1).1
theorem SlIn.later {B : Nat} {a : Option Addr} {n c : Nat} {L : List (Sp × Value)} {W W' : World} (h : SlIn B a n c L W) (hb : Below W.heap.size W W') : SlIn B a n c L W' := ⟨(hb.block _ h.lt).trans h.1, h.2.1, h.2.2.later hb⟩
theorem SlIn.c0 {B : Nat} {a : Option Addr} {n c : Nat} {L : List (Sp × Value)} {W : World} (h : SlIn B a n c L W) : W.cell? ⟨B, 0, none⟩ = some (.slice a n c) := by have := h.1; simp [World.cell?, this]
theorem SpsL.step {a : Option Addr} {n c : Nat} {L : List (Sp × Value)} {W : World} (h : SpsL W (.slice a n c) L) (hl : L.length = n) {i : Nat} {s : Sp} {v : Value} (hx : L[i]? = some (s, v)) :
    ∃ b o, a = some ⟨b, o, none⟩ ∧ W.cell? ⟨b, o + i * 6, none⟩ = some (.bool s.neg) ∧ W.cell? ⟨b, o + i * 6 + 1, none⟩ = some (.int .i64 s.kind) ∧ W.cell? ⟨b, o + i * 6 + 2, none⟩ = some (.int .i64 s.min) ∧
      W.cell? ⟨b, o + i * 6 + 3, none⟩ = some (.int .i64 s.max) ∧ W.cell? ⟨b, o + i * 6 + 4, none⟩ = some (.bool s.strict) ∧ W.cell? ⟨b, o + i * 6 + 5, none⟩ = some v ∧ CpsAt W v s.cs := by
  obtain ⟨⟨a', c', e, hc⟩, hcs⟩ := h
  rw [hl] at e
  obtain ⟨rfl, rfl⟩ := slice_eq e
  obtain ⟨b, o, e, z0, z1, z2, z3, z4, z5⟩ := sps_cell hc hx
  exact ⟨b, o, e, z0, z1, z2, z3, z4, z5, hcs _ (List.mem_of_getElem? hx)⟩
def spOf (L : List (Sp × Value)) (i : Nat) : Value := match L[i]? with | some x => spV x.1 x.2 | none => undef
def allRow (L : List (Sp × Value)) : List (Array Value) := (List.range L.length).map fun i : Nat => #[.int .i64 (i : Int), spOf L i]
def backRow (L : List (Sp × Value)) : List (Array Value) := (List.range L.length).map fun i : Nat => #[.int .i64 ((L.length - 1 - i : Nat) : Int), spOf L (L.length - 1 - i)]
theorem allRow_len (L : List (Sp × Value)) : (allRow L).length = L.length := by simp [allRow]
theorem backRow_len (L : List (Sp × Value)) : (backRow L).length = L.length := by simp [backRow]
theorem allRow_at {L : List (Sp × Value)} {i : Nat} {s : Sp} {v : Value} (h : L[i]? = some (s, v)) : (allRow L)[i]?.getD #[] = #[.int .i64 (i : Int), spV s v] := by
  have hl := (List.getElem?_eq_some_iff.1 h).1
  have hg := (List.getElem?_eq_some_iff.1 h).2
  simp [allRow, hl, spOf, hg]
theorem backRow_at {L : List (Sp × Value)} {i k : Nat} {s : Sp} {v : Value} (h : L[i]? = some (s, v)) (hk : k + i + 1 = L.length) : (backRow L)[k]?.getD #[] = #[.int .i64 (i : Int), spV s v] := by
  have e : L.length - 1 - k = i := by omega
  have hl : k < L.length := by omega
  simp [backRow, hl, e, spOf, h]
theorem allRow_size {L : List (Sp × Value)} {k : Nat} (h : k < (allRow L).length) : ((allRow L)[k]?.getD #[]).size = 2 := by
  simp [allRow] at h ⊢
  simp [h]
theorem backRow_size {L : List (Sp × Value)} {k : Nat} (h : k < (backRow L).length) : ((backRow L)[k]?.getD #[]).size = 2 := by
  simp [backRow] at h ⊢
  simp [h]
theorem all_any (a : Option Addr) (n c : Nat) (w : World) :
    Calls Tryz.prog 56 #[.slice a n c] w fun e w' => e = .returned (.func (.func 84) #[] #[.pointer (some ⟨w.heap.size, 0, none⟩)]) ∧ w' = w.alloc (.cells #[.slice a n c] 22) := by
  go_enter Tryz.func56, Tryz.ntmps56
  go_wp2
  go_ret
  exact ⟨rfl, rfl⟩
theorem back_any (a : Option Addr) (n c : Nat) (w : World) :
    Calls Tryz.prog 89 #[.slice a n c] w fun e w' => e = .returned (.func (.func 100) #[] #[.pointer (some ⟨w.heap.size, 0, none⟩)]) ∧ w' = w.alloc (.cells #[.slice a n c] 22) := by
  go_enter Tryz.func89, Tryz.ntmps89
  go_wp2
  go_ret
  exact ⟨rfl, rfl⟩
set_option maxRecDepth 100000 in
set_option maxHeartbeats 1000000 in
theorem all_tells (N B : Nat) (hN : 1 ≤ N) (a : Option Addr) (n c : Nat) (L : List (Sp × Value)) (hn : n ≤ 140737488351232) (w : World) :
    TellsRowT True Fence.wide N Tryz.prog 84 #[.pointer (some ⟨B, 0, none⟩)] (SlIn B a n c L) 45 (allRow L) w := by
  intro l J Jx W hW hK hDr hY h0
  clear hW
  rw [allRow_len] at *
  have hlen : Hid (L.length = n) := (hK _ _ h0).2.1
  replace hY := Lib.hid hY
  replace hDr := Lib.hid hDr
  replace hK := Lib.hid hK
  have k0 : W.cell? ⟨B, 0, none⟩ = some (.slice a n c) := (hK.out _ _ h0).c0
  refine callsIn_of_wp Tryz.func84 rfl trivial ?_ rfl
  simp only [Tryz.ntmps84, List.size_toArray, List.length_cons, List.length_nil, Nat.reduceAdd, Nat.reduceSub, Array.replicate_succ, Array.replicate_zero, List.push_toArray, List.append_toArray, List.nil_append, List.cons_append]
  gi_wp2_with fail
  clear k0
  gi_loopw [7] (fun u wr => ∃ j : Nat, j ≤ n ∧ u = .int .i64 j ∧ J j wr) (fun u _ => n - (intOf u).toNat)
  case atStart => exact ⟨0, Nat.zero_le _, rfl, h0⟩
  case round =>
    clear h0
    obtain ⟨j, hj, rfl, hJs⟩ := hrel
    by_cases hlt : j < n
    · have hlti : (j : Int) < n := by omega
      obtain ⟨⟨s, v⟩, hx⟩ := sps_i (L := L) (i := j) (by rw [hlen.out]; exact hlt)
      obtain ⟨b, o, rfl, z0, z1, z2, z3, z4, z5, a2, c2, hv, -⟩ := (hK.out _ _ hJs).2.2.step hlen.out hx
      subst hv
      have Y0 := hY.out j (by rw [hlen.out]; exact hlt)
      rw [allRow_at hx] at Y0
      unfold spV at Y0
      generalize hm : s.cs.length = m at *
      have hb := kept_new wr (.cells #[.bool s.neg, .int .i64 s.kind, .int .i64 s.min, .int .i64 s.max, .bool s.strict, .slice a2 m c2] 45)
      have hJ1 := hDr.out _ _ _ hJs hb
      replace Y0 := Y0 _ hJ1
      clear hb hDr hJs hm hY hJ1 hK hx
      have hsp := SpBox.new wr s (.slice a2 m c2)
      obtain ⟨q0, q1, q2, q3, q4, q5⟩ := hsp.cells
      clear hsp
      obtain ⟨fn, tmps, assign, body, hy, hR⟩ := Y0
      gi_wp2
      refine hR.mono ?_
      rintro e W3 (⟨rfl, hkt, hJ3⟩ | ⟨-, rfl, hJx3⟩)
      · gi_wp2
        go_roundw
        case rel => exact ⟨j + 1, hlt, by go_num, hJ3⟩
        case measure => simp [intOf]; omega
      · gi_wp2
        refine bodyPost_ret (results_none rfl _ _ _) rfl ?_
        exact ⟨⟨_, rfl⟩, .inr ⟨_, hJx3⟩⟩
    · obtain rfl : j = n := by omega
      gi_wp2
      go_end0
      exact ⟨⟨_, rfl⟩, .inl (by rw [hlen.out]; exact hJs)⟩
set_option maxRecDepth 100000 in
set_option maxHeartbeats 1000000 in
theorem back_tells (N B : Nat) (hN : 1 ≤ N) (a : Option Addr) (n c : Nat) (L : List (Sp × Value)) (hn : n ≤ 140737488351232) (w : World) :
    TellsRowT True Fence.wide N Tryz.prog 100 #[.pointer (some ⟨B, 0, none⟩)] (SlIn B a n c L) 45 (backRow L) w := by
  intro l J Jx W hW hK hDr hY h0
  clear hW
  rw [backRow_len] at *
  have hlen : Hid (L.length = n) := (hK _ _ h0).2.1
  replace hY := Lib.hid hY
  replace hDr := Lib.hid hDr
  replace hK := Lib.hid hK
  have k0 : W.cell? ⟨B, 0, none⟩ = some (.slice a n c) := (hK.out _ _ h0).c0
  refine callsIn_of_wp Tryz.func100 rfl trivial ?_ rfl
  simp only [Tryz.ntmps100, List.size_toArray, List.length_cons, List.length_nil, Nat.reduceAdd, Nat.reduceSub, Array.replicate_succ, Array.replicate_zero, List.push_toArray, List.append_toArray, List.nil_append, List.cons_append]
  gi_wp2_with fail
  clear k0
  gi_loopw [3] (fun u wr => ∃ j : Nat, j ≤ n ∧ u = .int .i64 ((n : Int) - 1 - j) ∧ J j wr) (fun u _ => (intOf u + 1).toNat)
  case atStart => exact ⟨0, Nat.zero_le _, by simp, h0⟩
  case round =>
    clear h0
    obtain ⟨j, hj, rfl, hJs⟩ := hrel
    have k0 := (hK.out _ _ hJs).c0
    by_cases hlt : j < n
    · obtain ⟨i, hi⟩ : ∃ i, n = j + 1 + i := ⟨n - (j + 1), by omega⟩
      have e : (n : Int) - 1 - j = i := by omega
      rw [e]
      have hge : (0 : Int) ≤ i := by omega
      have hin : (i : Int) < n := by omega
      obtain ⟨⟨s, v⟩, hx⟩ := sps_i (L := L) (i := i) (by rw [hlen.out]; omega)
      obtain ⟨b, o, rfl, z0, z1, z2, z3, z4, z5, a2, c2, hv, -⟩ := (hK.out _ _ hJs).2.2.step hlen.out hx
      subst hv
      have Y0 := hY.out j (by rw [hlen.out]; exact hlt)
      rw [backRow_at hx (by rw [hlen.out]; omega)] at Y0
      unfold spV at Y0
      generalize hm : s.cs.length = m at *
      replace Y0 := Y0 _ hJs
      have hnx : Hid ((n : Int) - 1 - (j + 1 : Nat) = i - 1) := by show _ = _; omega
      clear hDr hJs hm hY hK hx hi e
      obtain ⟨fn, tmps, assign, body, hy, hR⟩ := Y0
      gi_wp2
      refine hR.mono ?_
      rintro e W3 (⟨rfl, hkt, hJ3⟩ | ⟨-, rfl, hJx3⟩)
      · gi_wp2
        go_roundw
        case rel => exact ⟨j + 1, hlt, by rw [hnx.out], hJ3⟩
        case measure => simp [intOf] <;> omega
      · gi_wp2
        refine bodyPost_ret (results_none rfl _ _ _) rfl ?_
        exact ⟨⟨_, rfl⟩, .inr ⟨_, hJx3⟩⟩
    · obtain rfl : j = n := by omega
      have hge : ¬ (0 : Int) ≤ (j : Int) - 1 - j := by omega
      gi_wp2
      go_end0
      exact ⟨⟨_, rfl⟩, .inl (by rw [hlen.out]; exact hJs)⟩
end Go.Proofs.YtccmnngeibpcmaaGreat.Tree
