/-
  Contracts of termsOf and of the iterator that it hands back.
-/
import Derived.Test.YtccmnngeibpcmaaGreatRO
namespace Go.Proofs.YtccmnngeibpcmaaGreat.Tree
open Go.ChangeShapes Go.WideShapes Go.ChangeAt Go.RowKit
set_option linter.unusedVariables false
set_option linter.unusedSimpArgs false
attribute [local go_sem] Oper.semAt_some
/-- The terms of comparisons, in order. -/
def termsC (cs : List Cp) : List Tm := cs.flatMap fun c => [c.l, c.r]
theorem flat_len {α β : Type} (k : Nat) (f : α → List β) (hf : ∀ x, (f x).length = k) (l : List α) : (l.flatMap f).length = l.length * k := by
  induction l with
  | nil => simp
  | cons x r ih => rw [List.flatMap_cons, List.length_append, ih, hf, List.length_cons, Nat.succ_mul]; omega
theorem flat_at' {α β : Type} (k : Nat) (f : α → List β) (hf : ∀ x, (f x).length = k) (l : List α) (i : Nat) (x : α) (h : l[i]? = some x) (j : Nat) (hj : j < k) : (l.flatMap f)[i * k + j]? = (f x)[j]? := by
  induction l generalizing i with
  | nil => simp at h
  | cons y r ih =>
    rw [List.flatMap_cons]
    cases i with
    | zero =>
      simp at h; subst h
      rw [Nat.zero_mul, Nat.zero_add, List.getElem?_append_left (by rw [hf]; exact hj)]
    | succ i =>
      rw [List.getElem?_append_right (by rw [hf, Nat.succ_mul]; omega), hf, show (i + 1) * k + j - k = i * k + j by rw [Nat.succ_mul]; omega]
      exact ih i (by simpa using h)
theorem termsC_len (cs : List Cp) : (termsC cs).length = cs.length * 2 := flat_len 2 _ (fun _ => rfl) cs
theorem termsC_at {cs : List Cp} {i : Nat} {x : Cp} (h : cs[i]? = some x) : (termsC cs)[i * 2]? = some x.l ∧ (termsC cs)[i * 2 + 1]? = some x.r :=
  ⟨flat_at' 2 (fun c : Cp => [c.l, c.r]) (fun _ => rfl) cs i x h 0 (by omega), flat_at' 2 (fun c : Cp => [c.l, c.r]) (fun _ => rfl) cs i x h 1 (by omega)⟩
def termRow (cs : List Cp) : List (Array Value) := (termsC cs).map fun t => #[tmV t]
theorem termRow_len (cs : List Cp) : (termRow cs).length = cs.length * 2 := by simp [termRow, termsC_len]
theorem termRow_at {cs : List Cp} {i : Nat} {x : Cp} (h : cs[i]? = some x) : (termRow cs)[i * 2]?.getD #[] = #[tmV x.l] ∧ (termRow cs)[i * 2 + 1]?.getD #[] = #[tmV x.r] := by
  obtain ⟨h1, h2⟩ := termsC_at h
  unfold termRow
  exact ⟨by rw [List.getElem?_map, h1]; rfl, by rw [List.getElem?_map, h2]; rfl⟩
theorem termsOf_any (s : Sp) (a : Option Addr) (n c : Nat) (w : World) :
    Calls Tryz.prog 94 #[spV s (.slice a n c)] w fun e w' => e = .returned (.func (.func 102) #[] #[.pointer (some ⟨w.heap.size, 0, none⟩)]) ∧ w' = w.alloc (.cells #[.bool s.neg, .int .i64 s.kind, .int .i64 s.min, .int .i64 s.max, .bool s.strict, .slice a n c] 45) := by
  go_enter Tryz.func94, Tryz.ntmps94
  go_wp2
  go_ret
  exact ⟨rfl, rfl⟩
set_option maxRecDepth 100000 in
set_option maxHeartbeats 1000000 in
theorem terms_tells (N B : Nat) (hN : 1 ≤ N) (s : Sp) (a : Option Addr) (n c : Nat) (hn : n ≤ 140737488351232) (w : World) :
    TellsRowT True Fence.wide N Tryz.prog 102 #[.pointer (some ⟨B, 0, none⟩)] (SpIn B s a n c) 95 (termRow s.cs) w := by
  intro l J Jx W hW hK hDr hY h0
  clear hW
  rw [termRow_len] at *
  obtain ⟨m, hm⟩ : ∃ m, s.cs.length = m := ⟨_, rfl⟩
  have hmn : m = n := hm.symm.trans (hK _ _ h0).2.1
  subst hmn
  have hm' := Lib.hid hm
  simp only [hm] at hY ⊢
  clear hm
  replace hY := Lib.hid hY
  replace hDr := Lib.hid hDr
  replace hK := Lib.hid hK
  have k0 : W.cell? ⟨B, 5, none⟩ = some (.slice a m c) := by
    have h := (hK.out _ _ h0).1
    unfold SpBox at h
    simp [World.cell?, h]
  refine callsIn_of_wp Tryz.func102 rfl trivial ?_ rfl
  simp only [Tryz.ntmps102, List.size_toArray, List.length_cons, List.length_nil, Nat.reduceAdd, Nat.reduceSub, Array.replicate_succ, Array.replicate_zero, List.push_toArray, List.append_toArray, List.nil_append, List.cons_append]
  gi_wp2_with fail
  clear k0
  gi_loopw [8] (fun u wr => ∃ j : Nat, j ≤ m ∧ u = .int .i64 j ∧ J (j * 2) wr) (fun u _ => m - (intOf u).toNat)
  case atStart => exact ⟨0, Nat.zero_le _, rfl, by simpa using h0⟩
  case round =>
    clear h0
    obtain ⟨j, hj, rfl, hJs⟩ := hrel
    by_cases hlt : j < m
    · have hlti : (j : Int) < m := by omega
      obtain ⟨x, hx⟩ : ∃ x, s.cs[j]? = some x := ⟨_, List.getElem?_eq_getElem (by rw [hm'.out]; exact hlt)⟩
      obtain ⟨b, o, rfl, z0, z1, z2, z3, z4, z5, z6, z7, z8⟩ := (hK.out _ _ hJs).cmp hx
      obtain ⟨r0, r1⟩ := termRow_at hx
      have hb := kept_new wr (.cells #[.int .u8 x.op, .int .u8 x.l.k, .int .i64 x.l.n, .int .i64 x.l.s, .int .i64 x.l.r, .int .u8 x.r.k, .int .i64 x.r.n, .int .i64 x.r.s, .int .i64 x.r.r] 95)
      have hJ1 := hDr.out _ _ _ hJs hb
      have hcp := CpBox.new wr x
      have Y0 := hY.out (j * 2) (by omega) _ hJ1
      have Y1 := Lib.hid (hY.out (j * 2 + 1) (by omega))
      rw [r0] at Y0
      rw [r1] at Y1
      clear r0 r1 hb hDr hJs hx
      obtain ⟨q0, q1, q2, q3, q4, q5, q6, q7, q8⟩ := hcp.cells
      obtain ⟨fn, tmps, assign, body, hy, hR⟩ := Y0
      gi_wp2
      refine hR.mono ?_
      clear hR hy
      generalize wr.alloc (.cells #[.int .u8 x.op, .int .u8 x.l.k, .int .i64 x.l.n, .int .i64 x.l.s, .int .i64 x.l.r, .int .u8 x.r.k, .int .i64 x.r.n, .int .i64 x.r.s, .int .i64 x.r.r] 95) = W1 at *
      generalize wr.heap.size = S at *
      clear z0 z1 z2 z3 z4 z5 z6 z7 z8
      rintro e W3 (⟨rfl, hkt, hJ3⟩ | ⟨-, rfl, hJx3⟩)
      · have hcp3 : CpBox S x W3 := hkt _ _ _ hcp
        clear hcp hkt q0 q1 q2 q3 q4 q5 q6 q7 q8 hJ1
        obtain ⟨q0, q1, q2, q3, q4, q5, q6, q7, q8⟩ := hcp3.cells
        obtain ⟨fn, tmps, assign, body, hy, hR⟩ := Y1.out _ hJ3
        gi_wp2
        refine hR.mono ?_
        rintro e W4 (⟨rfl, hkt, hJ4⟩ | ⟨-, rfl, hJx4⟩)
        · gi_wp2
          go_roundw
          case rel => exact ⟨j + 1, hlt, by go_num, by rw [Nat.succ_mul]; exact hJ4⟩
          case measure => simp [intOf]; omega
        · gi_wp2
          refine bodyPost_ret (results_none rfl _ _ _) rfl ?_
          exact ⟨⟨_, rfl⟩, .inr ⟨_, hJx4⟩⟩
      · gi_wp2
        refine ⟨fun f hf => (by cases hf), ?_⟩
        gi_wp2
        refine bodyPost_ret (results_none rfl _ _ _) rfl ?_
        exact ⟨⟨_, rfl⟩, .inr ⟨_, hJx3⟩⟩
    · obtain rfl : j = m := by omega
      gi_wp2
      go_end0
      exact ⟨⟨_, rfl⟩, .inl hJs⟩
end Go.Proofs.YtccmnngeibpcmaaGreat.Tree
