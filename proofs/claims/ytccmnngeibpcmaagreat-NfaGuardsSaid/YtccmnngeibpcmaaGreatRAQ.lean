/-
  Patterns with fewer steps and comparisons, and with one number out of its bounds: in memory, and whether they may be written.
-/
import Derived.Test.YtccmnngeibpcmaaGreatRAP
namespace Go.Proofs.YtccmnngeibpcmaaGreat.Tree
open Go.ChangeShapes Go.WideShapes Go.ChangeAt Go.RowKit
set_option linter.unusedVariables false
set_option linter.unusedSimpArgs false
attribute [local go_sem] Oper.semAt_some
theorem rightP_parts {ss : List Sp} {win : Int} (h : rightP ss win = true) : 1 ≤ ss.length ∧ ss.length ≤ 26 ∧ nbr win = true ∧ ∀ s ∈ ss, rightS s = true := by
  unfold rightP at h
  simp only [Bool.and_eq_true, decide_eq_true_eq, List.all_eq_true] at h
  exact ⟨h.1.1.1, h.1.1.2, h.1.2, h.2⟩
theorem rightP_mk {ss : List Sp} {win : Int} (h1 : 1 ≤ ss.length) (h2 : ss.length ≤ 26) (h3 : nbr win = true) (h4 : ∀ s ∈ ss, rightS s = true) : rightP ss win = true := by
  unfold rightP
  simp only [Bool.and_eq_true, decide_eq_true_eq, List.all_eq_true]
  exact ⟨⟨⟨h1, h2⟩, h3⟩, h4⟩
theorem rightS_less {s : Sp} (q : Nat) (h : rightS s = true) : rightS { s with cs := s.cs.take q } = true := by
  unfold rightS at *
  simp only [Bool.and_eq_true, List.all_eq_true] at *
  exact ⟨h.1, fun c hc => h.2 c (List.mem_of_mem_take hc)⟩
theorem rightS_cs {s : Sp} {c : Cp} (h : rightC c = false) : rightS { s with cs := s.cs ++ [c] } = false := cmp_no (i := s.cs.length) (c := c) (by simp) h
/-- The law's pattern with less. -/
def lessP (ss : List Sp) (j q : Nat) (s : Sp) : List Sp := (ss.take (j + 1)).set j { s with cs := s.cs.take q }
theorem lessP_len {ss : List Sp} {j q : Nat} {s : Sp} (h : ss[j]? = some s) : (lessP ss j q s).length = j + 1 := by
  have := (List.getElem?_eq_some_iff.1 h).1
  unfold lessP
  rw [List.length_set, List.length_take]; omega
theorem lessP_mem {ss : List Sp} {j q : Nat} {s t : Sp} (ht : t ∈ lessP ss j q s) : t = { s with cs := s.cs.take q } ∨ t ∈ ss := by
  unfold lessP at ht
  rcases List.mem_or_eq_of_mem_set ht with h | h
  · exact .inr (List.mem_of_mem_take h)
  · exact .inl h
theorem lessP_right {ss : List Sp} {win : Int} {j q : Nat} {s : Sp} (h : ss[j]? = some s) (hr : rightP ss win = true) : rightP (lessP ss j q s) win = true := by
  obtain ⟨h1, h2, h3, h4⟩ := rightP_parts hr
  have hj := (List.getElem?_eq_some_iff.1 h).1
  have hl := lessP_len (q := q) h
  refine rightP_mk (by omega) (by omega) h3 fun t ht => ?_
  rcases lessP_mem ht with rfl | ht
  · exact rightS_less q (h4 s (List.mem_of_getElem? h))
  · exact h4 t ht
theorem sizeP_cons (s : Sp) (ss : List Sp) : sizeP (s :: ss) = 1 + 3 * (s.cs.length : Int) + sizeP ss := by
  simp [sizeP, sumF]; omega
theorem sizeP_nn (ss : List Sp) : 0 ≤ sizeP ss := by
  induction ss with
  | nil => simp [sizeP, sumF]
  | cons s r ih => rw [sizeP_cons]; omega
theorem lessP_size {ss : List Sp} {j q : Nat} {s : Sp} (h : ss[j]? = some s) : sizeP (lessP ss j q s) ≤ sizeP ss := by
  induction ss generalizing j with
  | nil => simp at h
  | cons x r ih =>
    cases j with
    | zero =>
      have hx : x = s := by simpa using h
      subst hx
      have hn := sizeP_nn r
      have hq : (x.cs.take q).length ≤ x.cs.length := by rw [List.length_take]; omega
      have e : lessP (x :: r) 0 q x = [{ x with cs := x.cs.take q }] := rfl
      rw [e, sizeP_cons, sizeP_cons]
      have e0 : sizeP [] = 0 := by simp [sizeP, sumF]
      rw [e0]
      show 1 + 3 * ((x.cs.take q).length : Int) + 0 ≤ _
      omega
    | succ j =>
      have h' : r[j]? = some s := by simpa using h
      have e : lessP (x :: r) (j + 1) q s = x :: lessP r j q s := rfl
      rw [e, sizeP_cons, sizeP_cons]
      have := ih h'
      omega
theorem set_bad {ss : List Sp} {win : Int} {j : Nat} {s : Sp} (hj : j < ss.length) (h : rightS s = false) : rightP (ss.set j s) win = false :=
  step_no (i := j) (s := s) (by rw [List.getElem?_set_self hj]) h
theorem differ {ss tt : List Sp} {win win' : Int} (h1 : rightP ss win = true) (h2 : rightP tt win' = false) : decide (ss = tt ∧ win = win') = false := by
  rw [decide_eq_false_iff_not]
  rintro ⟨rfl, rfl⟩
  rw [h1] at h2
  cases h2
/-- In memory. -/
theorem CellsAt.pre {w : World} {a : Option Addr} {xs : List Value} (h : CellsAt w a xs) (k : Nat) : CellsAt w a (xs.take k) := by
  rcases h with rfl | ⟨b, o, rfl, h⟩
  · exact .inl (by simp)
  · refine .inr ⟨b, o, rfl, fun j u hj => h j u ?_⟩
    have hl := (List.getElem?_eq_some_iff.1 hj).1
    rw [List.length_take] at hl
    rwa [List.getElem?_take_of_lt (by omega)] at hj
theorem flat_take {α β : Type} (k : Nat) (f : α → List β) (hf : ∀ x, (f x).length = k) (l : List α) (q : Nat) : (l.take q).flatMap f = (l.flatMap f).take (q * k) := by
  induction l generalizing q with
  | nil => simp
  | cons x r ih =>
    cases q with
    | zero => simp
    | succ q =>
      rw [List.take_succ_cons, List.flatMap_cons, List.flatMap_cons, ih, Nat.succ_mul, List.take_append, hf, Nat.add_sub_cancel]
      rw [List.take_of_length_le (i := q * k + k) (by rw [hf]; omega)]
theorem CpsAt.pre {w : World} {a : Option Addr} {m c : Nat} {cs : List Cp} (h : CpsAt w (.slice a m c) cs) (hm : cs.length = m) (q : Nat) (hq : q ≤ m) : CpsAt w (.slice a q c) (cs.take q) := by
  obtain ⟨a', c', e, hc⟩ := h
  rw [hm] at e
  obtain ⟨rfl, rfl⟩ := slice_eq e
  refine ⟨a, c, by rw [List.length_take, hm, Nat.min_eq_left hq], ?_⟩
  have e2 : cpsCells (cs.take q) = (cpsCells cs).take (q * 9) := flat_take 9 _ (fun _ => rfl) cs q
  rw [e2]
  exact hc.pre _
theorem spsCells_like {L : List (Sp × Value)} {j : Nat} {s : Sp} {u : Value} (cs : List Cp) : spsCells (L.set j (s, u)) = spsCells (L.set j ({ s with cs := cs }, u)) := by
  unfold spsCells
  induction L generalizing j with
  | nil => rfl
  | cons x r ih =>
    cases j with
    | zero => rfl
    | succ j => rw [List.set_cons_succ, List.set_cons_succ, List.flatMap_cons, List.flatMap_cons, ih]
theorem spsCells_set1 {L : List (Sp × Value)} {i : Nat} {s : Sp} {v : Value} (h : L[i]? = some (s, v)) (k : Int) : (spsCells L).set (i * 6 + 1) (.int .i64 k) = spsCells (L.set i ({ s with kind := k }, v)) := by
  unfold spsCells
  induction L generalizing i with
  | nil => simp at h
  | cons x r ih =>
    cases i with
    | zero => simp at h; subst h; rfl
    | succ i =>
      rw [List.flatMap_cons, List.set_cons_succ, List.flatMap_cons, show (i + 1) * 6 + 1 = (i * 6 + 1) + 6 by omega]
      rw [← ih (by simpa using h)]
      rfl
theorem spsCells_set3 {L : List (Sp × Value)} {i : Nat} {s : Sp} {v : Value} (h : L[i]? = some (s, v)) (k : Int) : (spsCells L).set (i * 6 + 3) (.int .i64 k) = spsCells (L.set i ({ s with max := k }, v)) := by
  unfold spsCells
  induction L generalizing i with
  | nil => simp at h
  | cons x r ih =>
    cases i with
    | zero => simp at h; subst h; rfl
    | succ i =>
      rw [List.flatMap_cons, List.set_cons_succ, List.flatMap_cons, show (i + 1) * 6 + 3 = (i * 6 + 3) + 6 by omega]
      rw [← ih (by simpa using h)]
      rfl
theorem row_f {W : World} {base g n cap : Nat} {xs : List Value} {e : TypeId} {k : Nat} (h : W.ownsRow base e k (.slice (some ⟨g, 0, none⟩) n cap) n xs) (j : Nat) : W.frozen? ⟨g, j, none⟩ = false := h.frozenAt _
theorem at_set {α : Type} {l : List α} {j : Nat} {x y : α} (h : y ∈ l.set j x) : y = x ∨ ∃ i, i ≠ j ∧ l[i]? = some y := by
  obtain ⟨i, hi⟩ := List.mem_iff_getElem?.1 h
  by_cases e : i = j
  · subst e
    have hl := (List.getElem?_eq_some_iff.1 hi).1
    rw [List.length_set] at hl
    rw [List.getElem?_set_self hl] at hi
    exact .inl (Option.some.inj hi).symm
  · rw [List.getElem?_set_ne (fun h => e h.symm)] at hi
    exact .inr ⟨i, e, hi⟩
theorem OwnCps.kept' {W W' : World} {base : Nat} {v : Value} {cs : List Cp} {row : Option Nat} (h : OwnCps W base v cs) (hg : W.grownBy W' row) (hne : v.ownBlock = none ∨ v.ownBlock ≠ row) : OwnCps W' base v cs := World.ownsRow.kept h hg hne
/-- A cell of a step stored. -/
theorem own_store {W : World} {base g n cap : Nat} {M : List (Sp × Value)} {j : Nat} {s' : Sp} {u' : Value} {f : Nat} {x : Value}
    (hr : W.ownsRow base 45 6 (.slice (some ⟨g, 0, none⟩) n cap) n (spsCells M)) (hM : M.length = n) (hs : (spsCells M).set (j * 6 + f) x = spsCells (M.set j (s', u')))
    (hown : ∀ X, W.grownBy X (some g) → CpsAt X u' s'.cs)
    (hoth2 : ∀ i y, i ≠ j → M[i]? = some y → OwnCps W base y.2 y.1.cs) :
    SpsL (W.setCell ⟨g, j * 6 + f, none⟩ x) (.slice (some ⟨g, 0, none⟩) n cap) (M.set j (s', u')) ∧ W.grownBy (W.setCell ⟨g, j * 6 + f, none⟩ x) (some g) := by
  obtain ⟨st1, st2⟩ := hr.stored (j * 6 + f) x
  rw [hs] at st1
  have hgb : ∀ r, some g = some r → ∃ o : Obj, W.heap[r]? = some o ∧ ∀ cs fz, o ≠ .cells cs 95 fz := fun r e => own_is hr 95 (by decide) r (by simpa [Value.ownBlock] using e)
  refine ⟨⟨?_, fun y hy => ?_⟩, st2⟩
  · rw [List.length_set, hM]
    exact cells_of_row st1
  · rcases at_set hy with rfl | ⟨i, hi, hy⟩
    · exact hown _ st2
    · exact ((hoth2 i y hi hy).kept st2 hgb).cps
theorem SpsL.pre {w : World} {a : Option Addr} {n c : Nat} {M : List (Sp × Value)} (h : SpsL w (.slice a n c) M) (hn : M.length = n) (q : Nat) (hq : q ≤ n) : SpsL w (.slice a q c) (M.take q) := by
  obtain ⟨⟨a', c', e, hc⟩, h2⟩ := h
  rw [hn] at e
  obtain ⟨rfl, rfl⟩ := slice_eq e
  refine ⟨⟨a, c, by rw [List.length_take, hn, Nat.min_eq_left hq], ?_⟩, fun x hx => h2 x (List.mem_of_mem_take hx)⟩
  have e2 : spsCells (M.take q) = (spsCells M).take (q * 6) := flat_take 6 _ (fun _ => rfl) M q
  rw [e2]
  exact hc.pre _
theorem take_set' {α : Type} (l : List α) (j : Nat) (x : α) : (l.set j x).take (j + 1) = (l.take (j + 1)).set j x := by
  induction l generalizing j with
  | nil => simp
  | cons y r ih =>
    cases j with
    | zero => rfl
    | succ j => rw [List.set_cons_succ, List.take_succ_cons, List.take_succ_cons, List.set_cons_succ, ih]
/-- The law's pattern with less, in memory. -/
theorem less_mem {W : World} {base g n cap j m k c2 : Nat} {M : List (Sp × Value)} {a2 : Option Addr} {s : Sp}
    (h : OwnSps W base (.slice (some ⟨g, 0, none⟩) n cap) M) (hM : M.length = n) (hj : j < n) (hx : M[j]? = some (s, .slice a2 m c2)) (hm : s.cs.length = m) (hk : k ≤ m) :
    ∃ N, SpsL (W.setCell ⟨g, j * 6 + 5, none⟩ (.slice a2 k c2)) (.slice (some ⟨g, 0, none⟩) (j + 1) cap) N ∧ N.map (·.1) = lessP (M.map (·.1)) j k s ∧ (∀ y ∈ N, y.1 = { s with cs := s.cs.take k } ∨ y ∈ M) := by
  have hr := h.1
  rw [hM] at hr
  have hou := h.2 _ (List.mem_of_getElem? hx)
  have hgb : ∀ r, some g = some r → ∃ o : Obj, W.heap[r]? = some o ∧ ∀ cs fz, o ≠ .cells cs 95 fz := fun r e => own_is hr 95 (by decide) r (by simpa [Value.ownBlock] using e)
  have H := own_store (u' := .slice a2 k c2) (s' := { s with cs := s.cs.take k }) (f := 5) (x := .slice a2 k c2) hr hM (by rw [spsCells_set hx, spsCells_like (s.cs.take k)])
    (fun X hX => ((hou.kept hX hgb).cps).pre hm k hk) (fun i y _ hy => h.2 _ (List.mem_of_getElem? hy))
  have H2 := H.1.pre (by rw [List.length_set, hM]) (j + 1) (by omega)
  refine ⟨_, H2, ?_, fun y hy => ?_⟩
  · rw [take_set', List.map_set, List.map_take]; rfl
  · rcases List.mem_or_eq_of_mem_set (List.mem_of_mem_take hy) with h1 | h1
    · exact .inr h1
    · exact .inl (by rw [h1])
theorem wrap_nat {t : Nat} (h : t ≤ 1000000) : IntKind.i64.wrap (t : Int) = t := by
  simp only [IntKind.wrap, IntKind.bits, IntKind.signed]
  simp
  omega
theorem apart_ne {M : List (Sp × Value)} (h : Apart M) {i j : Nat} {x y : Sp × Value} (hij : i ≠ j) (hy : M[i]? = some y) (hx : M[j]? = some x) : y.2.ownBlock = none ∨ y.2.ownBlock ≠ x.2.ownBlock := by
  obtain ⟨hi, ei⟩ := List.getElem?_eq_some_iff.1 hy
  obtain ⟨hj, ej⟩ := List.getElem?_eq_some_iff.1 hx
  cases hb : y.2.ownBlock with
  | none => exact .inl rfl
  | some r =>
    refine .inr fun e => ?_
    rcases Nat.lt_or_gt_of_ne hij with hlt | hgt
    · have := List.pairwise_iff_getElem.1 h i j hi hj hlt r (by rw [ei]; exact hb)
      rw [ej] at this
      exact this e.symm
    · have := List.pairwise_iff_getElem.1 h j i hj hi hgt r (by rw [ej]; exact e.symm)
      rw [ei] at this
      exact this hb
/-- A comparison more at one step, in memory. -/
theorem add_mem {W W2 : World} {base g n cap j m : Nat} {M : List (Sp × Value)} {s : Sp} {u v : Value} {x : Cp} {news : List Value} {tmp : Obj}
    (h : OwnSps W base (.slice (some ⟨g, 0, none⟩) n cap) M) (hM : M.length = n) (hx : M[j]? = some (s, u)) (hm : s.cs.length = m) (hap : Apart M) (hnews : news = cpsCells [x])
    (hg : (W.alloc tmp).grownBy W2 u.ownBlock) (hown : W2.ownsRow base 95 9 v (m + 1) (cpsCells s.cs ++ news)) :
    SpsL (W2.setCell ⟨g, j * 6 + 5, none⟩ v) (.slice (some ⟨g, 0, none⟩) n cap) (M.set j ({ s with cs := s.cs ++ [x] }, v)) ∧ W2.cell? ⟨g, j * 6 + 5, none⟩ = some u ∧ W2.frozen? ⟨g, j * 6 + 5, none⟩ = false := by
  have hou := h.2 _ (List.mem_of_getElem? hx)
  have hj : j < n := by have := (List.getElem?_eq_some_iff.1 hx).1; omega
  have hg0 : W.grownBy (W.alloc tmp) none := World.grownBy_alloc W _ none
  have h1 : OwnSps (W.alloc tmp) base (.slice (some ⟨g, 0, none⟩) n cap) M := h.later (kept_new W tmp)
  have hou1 := h1.2 _ (List.mem_of_getElem? hx)
  have hr := h1.1
  rw [hM] at hr
  have hr2 := row_kept hr hg (own_is hou1 45 (by decide))
  have hoth : ∀ i y, i ≠ j → M[i]? = some y → OwnCps W2 base y.2 y.1.cs := fun i y hij hy =>
    (h1.2 _ (List.mem_of_getElem? hy)).kept' hg (apart_ne hap hij hy hx)
  subst hnews
  have hcs : cpsCells s.cs ++ cpsCells [x] = cpsCells (s.cs ++ [x]) := by simp [cpsCells]
  rw [hcs] at hown
  have hov : OwnCps W2 base v (s.cs ++ [x]) := by
    unfold OwnCps
    rw [List.length_append, hm]
    exact hown
  have hgb : ∀ r, some g = some r → ∃ o : Obj, W2.heap[r]? = some o ∧ ∀ cs fz, o ≠ .cells cs 95 fz := fun r e => own_is hr2 95 (by decide) r (by simpa [Value.ownBlock] using e)
  have H := own_store (u' := v) (s' := { s with cs := s.cs ++ [x] }) (f := 5) (x := v) hr2 hM (by rw [spsCells_set hx, spsCells_like (s.cs ++ [x])])
    (fun X hX => (hov.kept hX hgb).cps) hoth
  obtain ⟨-, -, -, -, -, z5, z6⟩ := row_step hr2 hj hx
  exact ⟨H.1, z5, z6⟩
/-- A number of one step changed, in memory. -/
theorem num_mem {W : World} {base g n cap j : Nat} {M : List (Sp × Value)} {s s' : Sp} {u : Value} {f : Nat} {k : Int}
    (h : OwnSps W base (.slice (some ⟨g, 0, none⟩) n cap) M) (hM : M.length = n) (hx : M[j]? = some (s, u)) (hs : (spsCells M).set (j * 6 + f) (.int .i64 k) = spsCells (M.set j (s', u))) (hcs : s'.cs = s.cs) :
    SpsL (W.setCell ⟨g, j * 6 + f, none⟩ (.int .i64 k)) (.slice (some ⟨g, 0, none⟩) n cap) (M.set j (s', u)) := by
  have hou := h.2 _ (List.mem_of_getElem? hx)
  have hr := h.1
  rw [hM] at hr
  have hgb : ∀ r, some g = some r → ∃ o : Obj, W.heap[r]? = some o ∧ ∀ cs fz, o ≠ .cells cs 95 fz := fun r e => own_is hr 95 (by decide) r (by simpa [Value.ownBlock] using e)
  exact (own_store (u' := u) (s' := s') (f := f) (x := .int .i64 k) hr hM hs (fun X hX => by rw [hcs]; exact (hou.kept hX hgb).cps) (fun i y _ hy => h.2 _ (List.mem_of_getElem? hy))).1
theorem step_minA {ops : Array Oper} {o : Oper} {a : Act} {w : World} {K : Act → World → Prop} {Q : Exit → Act → World → Prop} {E : Prop} (hw : Region.wanted o (yielded ops a.tmps) = true) (s x : Operand)
    (ho : o.op = .call { callee := .builtin .min, args := #[s, x], argTypes := #[3, 3] }) (p q r : Int) (hs : a.eval s = .int .i64 p) (hx : a.eval x = .int .i64 q) (hr : min p q = r) (h : K (a.put o.dst (.int .i64 r)) w) :
    if Region.wanted o (yielded ops a.tmps) = true then Oper.wp Tryz.prog o a w K Q else E := by
  rw [if_pos hw]
  have e : (if q < p then q else p) = r := by rw [← hr]; split <;> omega
  have hr2 : (Builtin.min_ #[3, 3] o.type #[.int .i64 p, .int .i64 q]).run Tryz.prog w = .ok (.int .i64 r) w := by
    simp [Builtin.min_, Builtin.min2, e]
  unfold Oper.wp
  simp [execOp, ho, resolve, invoke, builtin, hs, hx, hr2, Result.andThen]
  exact h
theorem own_cap {W : World} {base m : Nat} {u : Value} {cs : List Cp} (h : OwnCps W base u cs) (hm : cs.length = m) : ∃ a2 c2, u = .slice a2 m c2 ∧ m ≤ c2 := by
  rcases h.2 with ⟨e, h0⟩ | ⟨g, cap, cur, e, hb, hg, hnc, _⟩
  · exact ⟨none, 0, by rw [e]; congr 1; omega, by omega⟩
  · exact ⟨_, cap, by rw [e, hm], by omega⟩
theorem own_lit {W : World} {base n : Nat} {v : Value} {M : List (Sp × Value)} (h : OwnSps W base v M) (hn : M.length = n) (h0 : 0 < n) : ∃ g cap, v = .slice (some ⟨g, 0, none⟩) n cap ∧ n ≤ cap ∧ base ≤ g := by
  rcases h.1.2 with ⟨e, h0'⟩ | ⟨g, cap, cur, e, hb, hg, hnc, _⟩
  · omega
  · exact ⟨g, cap, by rw [e, hn], by omega, hb⟩
theorem rem_k (a : Int) (n : Nat) (h : 0 < n) (h2 : n ≤ 301) : ∃ k : Nat, k < n ∧ (wrap64 (a.tmod n + n)).tmod n = k := by
  have hb : -(n : Int) < a.tmod n ∧ a.tmod n < n := by
    rcases Int.le_total 0 a with ha | ha
    · rw [Int.tmod_eq_emod_of_nonneg ha]
      have := Int.emod_nonneg a (show (n : Int) ≠ 0 by omega)
      have := Int.emod_lt_of_pos a (show (0 : Int) < n by omega)
      omega
    · obtain ⟨b, rfl⟩ : ∃ b, a = -b := ⟨-a, by omega⟩
      rw [Int.neg_tmod, Int.tmod_eq_emod_of_nonneg (show 0 ≤ b by omega)]
      have := Int.emod_nonneg b (show (n : Int) ≠ 0 by omega)
      have := Int.emod_lt_of_pos b (show (0 : Int) < n by omega)
      omega
  have hw : wrap64 (a.tmod n + n) = a.tmod n + n := by unfold wrap64; omega
  rw [hw, Int.tmod_eq_emod_of_nonneg (by omega)]
  have h1 := Int.emod_nonneg (a.tmod n + n) (show (n : Int) ≠ 0 by omega)
  have h2 := Int.emod_lt_of_pos (a.tmod n + n) (show (0 : Int) < n by omega)
  exact ⟨((a.tmod n + n) % n).toNat, by omega, by omega⟩
/-- A pattern that may not be written, in memory. -/
def BadQ (wr : World) (P g n cap : Nat) (W : World) : Prop :=
  ∃ N win', PtBox P (.slice (some ⟨g, 0, none⟩) n cap) win' W ∧ SpsL W (.slice (some ⟨g, 0, none⟩) n cap) N ∧ Short N ∧ OpsOk N ∧ rightP (N.map (·.1)) win' = false ∧ Below wr.heap.size wr W
/-- The law's own copy, ahead of its change. -/
def LxK (wr : World) (P g n cap j m : Nat) (win : Int) (M : List (Sp × Value)) (s : Sp) (u : Value) (W : World) : Prop :=
  PtBox P (.slice (some ⟨g, 0, none⟩) n cap) win W ∧ OwnSps W wr.heap.size (.slice (some ⟨g, 0, none⟩) n cap) M ∧ Apart M ∧ M.length = n ∧ M[j]? = some (s, u) ∧ s.cs.length = m ∧ Below wr.heap.size wr W ∧
    g ≠ P ∧ wr.heap.size ≤ g ∧ wr.heap.size ≤ P ∧ n ≤ 40 ∧ (∀ y ∈ M, y.1.cs.length ≤ 20) ∧ OpsOk M
section
variable {wr : World} {P g n cap j m : Nat} {win : Int} {M : List (Sp × Value)} {s : Sp} {u : Value} {W : World}
theorem LxK.set_small (h : LxK wr P g n cap j m win M s u W) {s' : Sp} {u' : Value} (hl : s'.cs.length ≤ 100) (ho : ∀ c ∈ s'.cs, 0 ≤ c.op) : Short (M.set j (s', u')) ∧ OpsOk (M.set j (s', u')) := by
  obtain ⟨hP, hO, hA, hn, hx, hm, hB, hgP, hg, hPw, h40, h20, hq⟩ := h
  refine ⟨⟨by rw [List.length_set]; omega, fun y hy => ?_⟩, fun y hy c hc => ?_⟩
  · rcases List.mem_or_eq_of_mem_set hy with h1 | rfl
    · exact Nat.le_trans (h20 y h1) (by omega)
    · exact Nat.le_trans hl (by omega)
  · rcases List.mem_or_eq_of_mem_set hy with h1 | rfl
    · exact hq y h1 c hc
    · exact ho c hc
theorem LxK.bad_right (h : LxK wr P g n cap j m win M s u W) {s' : Sp} {u' : Value} (hb : rightS s' = false) : rightP ((M.set j (s', u')).map (·.1)) win = false := by
  obtain ⟨hP, hO, hA, hn, hx, hm, hB, hgP, hg, hPw, h40, h20, hq⟩ := h
  rw [List.map_set]
  exact set_bad (by rw [List.length_map]; exact (List.getElem?_eq_some_iff.1 hx).1) hb
theorem LxK.num (h : LxK wr P g n cap j m win M s u W) {s' : Sp} {f : Nat} {k : Int} (hs : (spsCells M).set (j * 6 + f) (.int .i64 k) = spsCells (M.set j (s', u))) (hcs : s'.cs = s.cs) (hb : rightS s' = false) :
    BadQ wr P g n cap (W.setCell ⟨g, j * 6 + f, none⟩ (.int .i64 k)) := by
  have hr := h.bad_right (u' := u) hb
  obtain ⟨hP, hO, hA, hn, hx, hm, hB, hgP, hg, hPw, h40, h20, hq⟩ := id h
  have hl := h20 _ (List.mem_of_getElem? hx)
  dsimp only at hl
  obtain ⟨h1, h2⟩ := h.set_small (s' := s') (u' := u) (by rw [hcs]; omega) (by rw [hcs]; exact hq _ (List.mem_of_getElem? hx))
  exact ⟨_, win, block_far hP (fun e => hgP e.symm) _ _, num_mem hO hn hx hs hcs, h1, h2, hr, hB.setCell (p := ⟨g, j * 6 + f, none⟩) hg _⟩
theorem LxK.wnd (h : LxK wr P g n cap j m win M s u W) (k : Int) (hb : nbr k = false) : BadQ wr P g n cap (W.setCell ⟨P, 1, none⟩ (.int .i64 k)) := by
  obtain ⟨hP, hO, hA, hn, hx, hm, hB, hgP, hg, hPw, h40, h20, hq⟩ := h
  have hgr := grownBy_setCell_any W P 1 (.int .i64 k)
  refine ⟨M, k, hP.set1 k, ⟨?_, fun y hy => ((hO.2 y hy).kept hgr (block_is hP 95 (by decide))).cps⟩, ⟨by omega, fun y hy => Nat.le_trans (h20 y hy) (by omega)⟩, hq, rightP_win hb, hB.setCell (p := ⟨P, 1, none⟩) hPw _⟩
  have hr := row_kept hO.1 hgr (block_is hP 45 (by decide))
  exact cells_of_row hr
theorem LxK.add (h : LxK wr P g n cap j m win M s u W) {x : Cp} (hb : rightC x = false) (ho : 0 ≤ x.op) {W2 : World} {v : Value} {tmp : Obj} (hg2 : (W.alloc tmp).grownBy W2 u.ownBlock)
    (hown : W2.ownsRow wr.heap.size 95 9 v (m + 1) (cpsCells s.cs ++ cpsCells [x])) :
    BadQ wr P g n cap (W2.setCell ⟨g, j * 6 + 5, none⟩ v) ∧ W2.cell? ⟨g, j * 6 + 5, none⟩ = some u ∧ W2.frozen? ⟨g, j * 6 + 5, none⟩ = false := by
  have hr := h.bad_right (u' := v) (s' := { s with cs := s.cs ++ [x] }) (rightS_cs hb)
  obtain ⟨hP, hO, hA, hn, hx, hm, hB, hgP, hg, hPw, h40, h20, hq⟩ := id h
  obtain ⟨h1, h2, h3⟩ := add_mem hO hn hx hm hA rfl hg2 hown
  have hl := h20 _ (List.mem_of_getElem? hx)
  dsimp only at hl
  obtain ⟨h4, h5⟩ := h.set_small (s' := { s with cs := s.cs ++ [x] }) (u' := v) (by rw [List.length_append]; simp; omega) (by
    intro c hc
    rcases List.mem_append.1 hc with hc | hc
    · exact hq _ (List.mem_of_getElem? hx) c hc
    · obtain rfl := List.mem_singleton.1 hc
      exact ho)
  have hou := hO.2 _ (List.mem_of_getElem? hx)
  have hg1 : W.grownBy (W.alloc tmp) none := World.grownBy_alloc W _ none
  have hP1 := block_grown hP hg1 (by simp)
  have hP2 := block_grown hP1 hg2 (not_rowblock (World.ownsRow.alloc hou tmp) hP1 (by decide))
  refine ⟨⟨_, win, block_far hP2 (fun e => hgP e.symm) _ _, h1, h4, h5, hr, ?_⟩, h2, h3⟩
  refine (Below.grown (hB.trans ((below_grown hg1).mono hB.size)) hg2 (by have := hB.size; simp; omega) fun j ej => ?_).setCell (p := ⟨g, _, none⟩) hg v
  exact (World.ownsRow.lt hou j ej).1
end
theorem cells_newA (X : World) (xs : List Value) (t : TypeId) : CellsAt (X.alloc (.cells xs.toArray t)) (some ⟨X.heap.size, 0, none⟩) xs := by
  refine .inr ⟨X.heap.size, 0, rfl, fun j v hj => ?_⟩
  have hb := World.alloc_heap_new X (.cells xs.toArray t)
  simp only [World.cell?, hb]
  simpa using hj
theorem wpList_minA {ops : Array Oper} {rest : List Oper} {o : Oper} {a : Act} {w : World} {Q : Exit → Act → World → Prop} (hgd : o.guard = none) (s x : Operand)
    (ho : o.op = .call { callee := .builtin .min, args := #[s, x], argTypes := #[3, 3] }) (p q r : Int) (hs : a.eval s = .int .i64 p) (hx : a.eval x = .int .i64 q) (hr : min p q = r)
    (h : wpList Tryz.prog ops Q rest (a.put o.dst (.int .i64 r)) w) : wpList Tryz.prog ops Q (o :: rest) a w := by
  refine wpList_plain hgd fun K hK => ?_
  have e : (if q < p then q else p) = r := by rw [← hr]; split <;> omega
  have hr2 : (Builtin.min_ #[3, 3] o.type #[.int .i64 p, .int .i64 q]).run Tryz.prog w = .ok (.int .i64 r) w := by
    simp [Builtin.min_, Builtin.min2, e]
  unfold Oper.wp
  simp [execOp, ho, resolve, invoke, builtin, hs, hx, hr2, Result.andThen]
  exact hK _ _ h
theorem neg_w {t : Nat} (h : t ≤ 999) : IntKind.i64.wrap (-((t : Int) + 1)) = -((t : Int) + 1) := by
  simp only [IntKind.wrap, IntKind.bits, IntKind.signed]; simp; omega
theorem max_w {t : Nat} (h : t ≤ 999) : IntKind.i64.wrap (1099511627776 + ((t : Int) + 1)) = 1099511627776 + ((t : Int) + 1) := by
  simp only [IntKind.wrap, IntKind.bits, IntKind.signed]; simp; omega
theorem low_w {t : Nat} (h : t ≤ 999) : IntKind.i64.wrap (-1099511627776 - ((t : Int) + 1)) = -1099511627776 - ((t : Int) + 1) := by
  simp only [IntKind.wrap, IntKind.bits, IntKind.signed]; simp; omega
theorem r25_w {t : Nat} (h : t ≤ 999) : IntKind.i64.wrap (25 + ((t : Int) + 1)) = 25 + ((t : Int) + 1) := by
  simp only [IntKind.wrap, IntKind.bits, IntKind.signed]; simp; omega
theorem r_w {r : Int} (h0 : 1 ≤ r) (h1 : r ≤ 99) : IntKind.u8.wrap r = r ∧ IntKind.u8.wrap (6 + r) = 6 + r := by
  constructor <;> (simp only [IntKind.wrap, IntKind.bits, IntKind.signed]; simp; omega)
/-- The comparisons that the law puts behind. -/
def badC (i : Nat) (r t : Int) : Cp := if i = 3 then ⟨6 + r, ⟨0, 0, 0, 0⟩, ⟨0, 0, 0, 0⟩⟩ else if i = 4 then ⟨3, ⟨0, 0, t, 0⟩, ⟨0, 0, 0, 0⟩⟩ else if i = 5 then ⟨3, ⟨0, 0, 0, 0⟩, ⟨2, 0, 0, t⟩⟩ else if i = 6 then ⟨3, ⟨0, -1099511627776 - t, 0, 0⟩, ⟨0, 0, 0, 0⟩⟩ else ⟨3, ⟨5, 0, 0, 25 + t⟩, ⟨0, 0, 0, 0⟩⟩
theorem bad_3 {r : Int} (h : 1 ≤ r) : rightC ⟨6 + r, ⟨0, 0, 0, 0⟩, ⟨0, 0, 0, 0⟩⟩ = false := by
  have : ¬ 6 + r < 7 := by omega
  simp [rightC, this]
theorem bad_4 {t : Int} (h : 1 ≤ t) : rightC ⟨3, ⟨0, 0, t, 0⟩, ⟨0, 0, 0, 0⟩⟩ = false := by
  have : ¬ t = 0 := by omega
  simp [rightC, rightT, this]
theorem bad_5 {t : Int} (h : 1 ≤ t) : rightC ⟨3, ⟨0, 0, 0, 0⟩, ⟨2, 0, 0, t⟩⟩ = false := by
  have : ¬ t = 0 := by omega
  simp [rightC, rightT, this]
theorem bad_6 {t : Int} (h : 1 ≤ t) : rightC ⟨3, ⟨0, -1099511627776 - t, 0, 0⟩, ⟨0, 0, 0, 0⟩⟩ = false := by
  have : ¬ -1099511627776 ≤ -1099511627776 - t := by omega
  simp [rightC, rightT, this]
theorem bad_7 {t : Int} (h : 1 ≤ t) : rightC ⟨3, ⟨5, 0, 0, 25 + t⟩, ⟨0, 0, 0, 0⟩⟩ = false := by
  have : ¬ 25 + t < 26 := by omega
  simp [rightC, rightT, this]
theorem bad_k {s : Sp} {t : Int} (h : 1 ≤ t) : rightS { s with kind := -t } = false := by
  have : ¬ 0 ≤ -t := by omega
  exact rightS_kind (by simp [nbr]; omega)
theorem bad_m {s : Sp} {t : Int} (h : 1 ≤ t) : rightS { s with max := 1099511627776 + t } = false := by
  refine rightS_max ?_
  show nbr (1099511627776 + t) = false
  unfold nbr
  have : ¬ 1099511627776 + t ≤ 1099511627776 := by omega
  simp [this]
theorem bad_w {t : Int} (h : 1 ≤ t) : nbr (-t) = false := by
  unfold nbr
  have : ¬ 0 ≤ -t := by omega
  simp; omega
end Go.Proofs.YtccmnngeibpcmaaGreat.Tree
