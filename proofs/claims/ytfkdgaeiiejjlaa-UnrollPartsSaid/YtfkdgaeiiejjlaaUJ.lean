/-
  Append to an empty slice of the law's own, and of one number more: what is kept. Drawn regions with loads taken first, state by state.
-/
import Derived.Test.YtfkdgaeiiejjlaaUZA
import Derived.Deep.RegionHeld3
namespace Go.Proofs.Ytfkdgaeiiejjlaa.Tree
open Go.ChangeShapes Go.WideShapes Go.ChangeAt Go.RowKit
set_option linter.unusedVariables false
set_option linter.unusedSimpArgs false
set_option maxRecDepth 100000
attribute [local go_sem] Oper.semAt_some
section
variable {P : Program} {w : World} {e : TypeId} {size : Nat}
theorem run_append_fresh (base : Nat) (t ty e : TypeId) (i : TypeInfo) (z : Value) (size bytes : Nat) (ht : P.underlying t = some (.slice e)) (hi : P.info? e = some i) (hz : i.zero = some z)
    (hsize : i.size = size) (hby : i.bytes = bytes) (hzs : z.cells.size = size) (hsz : 0 < size)
    (p : Nat) (hp : w.heap[p]? = some (.cells #[] e (0, 0)))
    (a : Option Addr) (m c : Nat) (news : List Value) (hl : news.length = m * size) (hnews : CellsAt w a news) (h1 : ∀ u ∈ news, u.oneCell' = true)
    (h63 : m ≤ maxLen) (hbytes : m * bytes ≤ 140737488355328) (hbase : base ≤ w.heap.size) :
    ∃ v' w', (Builtin.append_ #[t, t] ty #[.slice (some ⟨p, 0, none⟩) 0 0, .slice a m c]).run P w = .ok v' w' ∧ Below w.heap.size w w' ∧ ((m = 0 ∧ v' = .slice (some ⟨p, 0, none⟩) 0 0 ∧ w'.heap[p]? = some (.cells #[] e (0, 0))) ∨ w'.ownsRow base e size v' m news) := by
  have hown : w.ownsRow 0 e size (.slice (some ⟨p, 0, none⟩) 0 0) 0 [] := ⟨by simp, .inr ⟨p, 0, #[], rfl, Nat.zero_le _, hp, Nat.le_refl _, Nat.zero_le _, by simp, by simp⟩⟩
  cases a with
  | none =>
    have hm : m = 0 := by
      rcases hnews with rfl | ⟨b, o, h, _⟩
      · have hl0 : m * size = 0 := hl.symm
        rcases Nat.mul_eq_zero.1 hl0 with h | h
        · exact h
        · omega
      · cases h
    subst hm
    exact ⟨_, w, run_append_noslice 0 t ty e i size ht hi _ 0 [] hown c, Below.refl _ _, .inl ⟨rfl, rfl, hp⟩⟩
  | some ad =>
    have hc : ∀ j u, news[j]? = some u → w.cell? (ad.add j) = some u := by
      rcases hnews with rfl | ⟨b, o, h, hc⟩
      · intro j u hj; simp at hj
      · cases h
        intro j u hj
        have := hc j u hj
        by_cases h0 : j = 0
        · subst h0; simpa [Addr.add] using this
        · simpa [Addr.add, h0] using this
    subst hsize
    subst hby
    by_cases hm : m = 0
    · subst hm
      have hn : news = [] := List.eq_nil_of_length_eq_zero (by simpa using hl)
      subst hn
      have hr := run_append_room (P := P) w t ty e i ht hi p 0 0 #[] hp ad 0 c [] (by simp) (by simp) (by simp) (Nat.le_refl _) (by simp)
      have e0 : (List.take (0 * i.size) (#[] : Array Value).toList ++ ([] : List Value) ++ List.drop (0 * i.size + ([] : List Value).length) (#[] : Array Value).toList).toArray = #[] := by simp
      rw [e0] at hr
      refine ⟨_, _, hr, ?_, .inl ⟨rfl, rfl, ?_⟩⟩
      · refine ⟨rfl, rfl, rfl, by simp, fun k hk => ?_⟩
        by_cases e : k = p
        · subst e
          rw [hp]
          exact setRow_heap w k #[] _ _ _ hp
        · exact setRow_other w p k _ e
      · exact setRow_heap w p #[] _ _ _ hp
    · have hsmall : m ≤ 9223372036854775807 := by simp only [maxLen] at h63; omega
      have hr := run_append_grow (P := P) w t ty e i z ht hi hz ⟨p, 0, none⟩ 0 0 [] (by simp) (by simp) ad m c news hl hc (by omega) (by omega) (growslice_fits (by omega) (by simpa using hbytes))
      refine ⟨_, _, hr, ⟨rfl, rfl, rfl, by simp, fun k hk => heap_alloc_old w.drew _ hk⟩, .inr ?_⟩
      have hge := grownCap_ge w (0 + m) 0 e
      have hcm : grownCap w (0 + m) 0 e ≤ maxLen := grownCap_le_maxLen w (0 + m) 0 e (by simpa using h63)
      refine ⟨hl, .inr ⟨w.heap.size, _, _, by simp, hbase, heap_alloc_new w.drew _, by simpa using hge, hcm, ?_, ?_⟩⟩
      · simp only [Array.size_append, List.size_toArray, size_zeroCells, hzs, hl, List.length_nil, Nat.zero_add, ← Nat.add_mul]
        congr 1
        simp only [Nat.zero_add] at hge
        omega
      · simp only [Array.toList_append, List.nil_append]
        rw [← hl]
        exact List.take_left
end
/-- A row that stood when memory ended at B. -/
def OldR (N B : Nat) (X : World) (v : Value) (xs : List Int) : Prop := X.ownsRow 0 3 1 v xs.length (ints xs) ∧ (∀ g, v.ownBlock = some g → g < B) ∧ B ≤ X.heap.size ∧ N ≤ B
theorem OldR.later {N B : Nat} {X Y : World} {v : Value} {xs : List Int} (h : OldR N B X v xs) (hb : Below X.heap.size X Y) : OldR N B Y v xs := ⟨row_later h.1 hb, h.2.1, Nat.le_trans h.2.2.1 hb.size, h.2.2.2⟩
theorem OldR.nms {N B : Nat} {X : World} {v : Value} {xs : List Int} (h : OldR N B X v xs) : NmsAt X v xs := nms_own h.1
theorem OldR.of {N : Nat} {X Y : World} {v : Value} {xs : List Int} (h : Y.ownsRow X.heap.size 3 1 v xs.length (ints xs)) (hN : N ≤ Y.heap.size) : OldR N Y.heap.size Y v xs := ⟨row_base h (Nat.zero_le _), fun g hg => (h.lt g hg).2, Nat.le_refl _, hN⟩
/-- A row that lies behind B, or an empty one without room. -/
def NewR (B : Nat) (X : World) (v : Value) (xs : List Int) : Prop := (∃ p, v = .slice (some ⟨p, 0, none⟩) 0 0 ∧ xs = [] ∧ X.heap[p]? = some (.cells #[] 3 (0, 0))) ∨ X.ownsRow B 3 1 v xs.length (ints xs)
theorem NewR.later {B : Nat} {X Y : World} {v : Value} {xs : List Int} (h : NewR B X v xs) (hb : Below X.heap.size X Y) : NewR B Y v xs := by
  rcases h with ⟨p, h1, h2, h3⟩ | h
  · exact .inl ⟨p, h1, h2, (hb.block _ (Array.getElem?_eq_some_iff.1 h3).1).trans h3⟩
  · exact .inr (row_later h hb)
theorem app_first {o : Oper} {a : Act} {w : World} {K : Act → World → Prop} {Q : Exit → Act → World → Prop} (s x : Operand)
    (ho : o.op = .call { callee := .builtin .append, args := #[s, x], argTypes := #[25, 25] })
    (p : Nat) (hp : w.heap[p]? = some (.cells #[] 3 (0, 0))) (hs : a.eval s = .slice (some ⟨p, 0, none⟩) 0 0)
    (u : Value) (xs : List Int) (hx : a.eval x = u) (hu : NmsAt w u xs) (hl : xs.length ≤ 1000) (B : Nat) (hB : B ≤ w.heap.size)
    (h : ∀ v' w', NewR B w' v' xs → Below w.heap.size w w' → K (a.put o.dst v') w') : Oper.wp Try.prog o a w K Q := by
  obtain ⟨i0, hi, hz0, hz1, hz2⟩ := info_parts Try.info3
  obtain ⟨ad, c, rfl, hc⟩ := hu
  obtain ⟨v', w', hr, h2, h3⟩ := run_append_fresh (P := Try.prog) (w := w) B 25 o.type 3 i0 (.int .i64 0) 1 8 Try.underlying25 hi hz0 hz1 hz2 rfl (by decide) p hp ad xs.length c (ints xs) (by simp) hc (ints_one xs) (by unfold maxLen; omega) (by omega) hB
  unfold Oper.wp
  simp [execOp, ho, resolve, invoke, builtin, hs, hx, hr, Result.andThen]
  refine h v' w' ?_ h2
  rcases h3 with ⟨h4, h5, h6⟩ | h4
  · exact .inl ⟨p, h5, List.eq_nil_of_length_eq_zero h4, h6⟩
  · exact .inr h4
theorem app_one {o : Oper} {a : Act} {w : World} {K : Act → World → Prop} {Q : Exit → Act → World → Prop} (s x : Operand)
    (ho : o.op = .call { callee := .builtin .append, args := #[s, x], argTypes := #[25, 25] })
    (B : Nat) (hB : B ≤ w.heap.size) (v : Value) (xs : List Int) (hs : a.eval s = v) (hv : NewR B w v xs) (hl : xs.length ≤ 1000)
    (p : Nat) (z : Int) (hx : a.eval x = .slice (some ⟨p, 0, none⟩) 1 1) (hlit : CellsAt w (some ⟨p, 0, none⟩) [.int .i64 z])
    (h : ∀ v' w', NmsAt w' v' (xs ++ [z]) → (∀ N W0, N ≤ B → Below N W0 w → Below N W0 w') → (∀ N u ys, OldR N B w u ys → OldR N B w' u ys) → K (a.put o.dst v') w') : Oper.wp Try.prog o a w K Q := by
  obtain ⟨i0, hi, hz0, hz1, hz2⟩ := info_parts Try.info3
  rcases hv with ⟨q, rfl, rfl, hq⟩ | hv
  · obtain ⟨v', w', hr, h2, h3⟩ := run_append_fresh (P := Try.prog) (w := w) B 25 o.type 3 i0 (.int .i64 0) 1 8 Try.underlying25 hi hz0 hz1 hz2 rfl (by decide) q hq (some ⟨p, 0, none⟩) 1 1 [.int .i64 z] (by simp) hlit (by simp [Value.oneCell']) (by unfold maxLen; omega) (by omega) hB
    unfold Oper.wp
    simp [execOp, ho, resolve, invoke, builtin, hs, hx, hr, Result.andThen]
    have h4 : w'.ownsRow B 3 1 v' 1 [.int .i64 z] := by
      rcases h3 with ⟨h4, -⟩ | h4
      · omega
      · exact h4
    exact h v' w' (nms_own (xs := [z]) h4) (fun N W0 hN hb => hb.trans (h2.mono (Nat.le_trans hN hB))) (fun N u ys hu => hu.later h2)
  · obtain ⟨v', w', hr, h2, h3⟩ := run_append_cells (P := Try.prog) (w := w) B 25 o.type 3 i0 (.int .i64 0) 1 8 Try.underlying25 hi hz0 hz1 hz2 rfl (by decide) v xs.length (ints xs) hv (some ⟨p, 0, none⟩) 1 1 [.int .i64 z] (by simp) hlit (by simp [Value.oneCell']) (by unfold maxLen; omega) (by omega) hB
    unfold Oper.wp
    simp [execOp, ho, resolve, invoke, builtin, hs, hx, hr, Result.andThen]
    have e : ints xs ++ [.int .i64 z] = ints (xs ++ [z]) := by simp [ints]
    rw [e] at h2
    refine h v' w' (nms_own h2) (fun N W0 hN hb => hb.grown h3 (Nat.le_trans hN hB) (fun k hk => Nat.le_trans hN (own_ge hv k hk))) (fun N u ys hu => ⟨hu.1.kept h3 ?_, hu.2.1, Nat.le_trans hu.2.2.1 h3.size, hu.2.2.2⟩)
    cases hub : u.ownBlock with
    | none => exact .inl rfl
    | some g =>
      refine .inr fun e => ?_
      have h4 := own_ge hv g e.symm
      have h5 := hu.2.1 g hub
      omega
/-- The first k have come up, and these. -/
def fsH (n k : Nat) (ex : List Nat) : Array Bool := ((List.range n).map fun i => decide (i < k) || ex.contains i).toArray
theorem held_op {P : Program} {ops : Array Oper} {Q : Exit → Act → World → Prop} {i : Nat} {o : Oper} {K : Act → World → Prop} {a : Act} {w : World} (h0 : ops[i]? = some o) (hw : Region.wanted o (yielded ops a.tmps) = true)
    (h : ∀ K' : Act → World → Prop, (∀ a w, K a w → K' a w) → Oper.wp P o a w K' Q) : wpOp P ops Q i K a w := by
  unfold wpOp
  rw [h0]
  simp only [hw, if_true]
  exact .inl (h K fun _ _ h => h)
end Go.Proofs.Ytfkdgaeiiejjlaa.Tree
