/-
  TreeLong's walk.
-/
import Derived.Test.YtkibnbcdmkogkaaAL
namespace Go.Proofs.Ytkibnbcdmkogkaa
open Go.ChangeShapes Go.WideShapes Go.ChangeAt Go.RowKit
set_option linter.unusedVariables false
set_option linter.unusedSimpArgs false
attribute [local go_sem] Oper.semAt_some
theorem least_snoc (ss : List Sp) (s : Sp) : leastP (ss ++ [s]) = leastP ss + (if s.neg then 0 else within s.min) := by simp [leastP, sumF]
theorem most_snoc (ss : List Sp) (s : Sp) : mostP (ss ++ [s]) = mostP ss + (if s.neg then 0 else within s.max) := by simp [mostP, sumF]
theorem size_snoc (ss : List Sp) (s : Sp) : sizeP (ss ++ [s]) = sizeP ss + 1 + 3 * (s.cs.length : Int) := by simp [sizeP, sumF]; omega
theorem posF_snoc (ss : List Sp) (s : Sp) (i : Nat) : posF (ss ++ [s]) i = posF ss i ++ (if s.neg then [] else [((i + ss.length : Nat) : Int)]) := by
  induction ss generalizing i with
  | nil => cases h : s.neg <;> simp [posF, h]
  | cons x r ih =>
    simp only [List.cons_append, posF, List.length_cons]
    rw [ih, show i + 1 + r.length = i + (r.length + 1) by omega]
    split <;> simp
theorem pos_snoc (ss : List Sp) (s : Sp) : posP (ss ++ [s]) = posP ss ++ (if s.neg then [] else [(ss.length : Int)]) := by
  unfold posP; rw [posF_snoc]; simp
theorem least_bd {ss : List Sp} (h : ss.length ≤ 100) : 0 ≤ leastP ss ∧ leastP ss ≤ 109951162777600 := by
  have := lo_bd ss ss.length h
  rwa [sumF_all _ (Nat.le_refl _)] at this
theorem most_bd {ss : List Sp} (h : ss.length ≤ 100) : 0 ≤ mostP ss ∧ mostP ss ≤ 109951162777600 := by
  have := hi_bd ss ss.length h
  rwa [sumF_all _ (Nat.le_refl _)] at this
theorem size_bd {ss : List Sp} (h : Fair ss) : 0 ≤ sizeP ss ∧ sizeP ss ≤ 100100 := by
  have := sz_bd h ss.length h.1
  rw [sumF_all _ (Nat.le_refl _)] at this
  have e : sizeP ss = ss.length + sumF sz3 ss := rfl
  have := h.1
  omega
/-- What lies in memory behind the law's own append. -/
def LgEnd (w w2 : World) (a b : Option Addr) (n m c d : Nat) (L : List (Sp × Value)) (win : Int) (s : Sp) (W : World) : Prop :=
  PtBox w.heap.size (.slice a n c) win W ∧ SpBox (w.heap.size + 1) s (.slice b m d) W ∧ SpsL W (.slice a n c) L ∧ Below w.heap.size w W ∧
    ∃ v2, PtBox w2.heap.size v2 win W ∧ SpsL W v2 (L ++ [(s, .slice b m d)])
theorem step_append_guarded {ops : Array Oper} {o : Oper} {a : Act} {w : World} {K : Act → World → Prop} {Q : Exit → Act → World → Prop} {E : Prop} (hw : Region.wanted o (yielded ops a.tmps) = true) (s x : Operand) (t : TypeId)
    (ho : o.op = .call { callee := .builtin .append, args := #[s, x], argTypes := #[t, t] })
    (base : Nat) (e : TypeId) (i : TypeInfo) (z : Value) (size bytes : Nat) (ht : Try.prog.underlying t = some (.slice e)) (hi : Try.prog.info? e = some i) (hz : i.zero = some z)
    (hsize : i.size = size) (hby : i.bytes = bytes) (hzs : z.cells.size = size) (hsz : 0 < size)
    (v : Value) (n : Nat) (xs : List Value) (hs : a.eval s = v) (hown : w.ownsRow base e size v n xs)
    (ad : Option Addr) (m c : Nat) (news : List Value) (hx : a.eval x = .slice ad m c) (hl : news.length = m * size) (hnews : CellsAt w ad news) (h1 : ∀ u ∈ news, u.oneCell' = true)
    (h63 : n + m ≤ maxLen) (hbytes : (n + m) * bytes ≤ 140737488355328) (hbase : base ≤ w.heap.size)
    (h : ∀ v' w', w'.ownsRow base e size v' (n + m) (xs ++ news) → w.grownBy w' v.ownBlock → K (a.put o.dst v') w') :
    if Region.wanted o (yielded ops a.tmps) = true then Oper.wp Try.prog o a w K Q else E := by
  rw [if_pos hw]
  exact wp_append_cells s x t ho base e i z size bytes ht hi hz hsize hby hzs hsz v n xs hs hown ad m c news hx hl hnews h1 h63 hbytes hbase h
theorem step_max {ops : Array Oper} {o : Oper} {a : Act} {w : World} {K : Act → World → Prop} {Q : Exit → Act → World → Prop} {E : Prop} (hw : Region.wanted o (yielded ops a.tmps) = true) (s x : Operand)
    (ho : o.op = .call { callee := .builtin .max, args := #[s, x], argTypes := #[3, 3] }) (p q r : Int) (hs : a.eval s = .int .i64 p) (hx : a.eval x = .int .i64 q) (hr : max p q = r) (h : K (a.put o.dst (.int .i64 r)) w) :
    if Region.wanted o (yielded ops a.tmps) = true then Oper.wp Try.prog o a w K Q else E := by
  rw [if_pos hw]
  have e : (if p < q then q else p) = r := by rw [← hr]; split <;> omega
  have hr2 : (Builtin.max_ #[3, 3] o.type #[.int .i64 p, .int .i64 q]).run Try.prog w = .ok (.int .i64 r) w := by
    simp [Builtin.max_, Builtin.max2, e]
  unfold Oper.wp
  simp [execOp, ho, resolve, invoke, builtin, hs, hx, hr2, Result.andThen]
  exact h
theorem step_min {ops : Array Oper} {o : Oper} {a : Act} {w : World} {K : Act → World → Prop} {Q : Exit → Act → World → Prop} {E : Prop} (hw : Region.wanted o (yielded ops a.tmps) = true) (s x : Operand)
    (ho : o.op = .call { callee := .builtin .min, args := #[s, x], argTypes := #[3, 3] }) (p q r : Int) (hs : a.eval s = .int .i64 p) (hx : a.eval x = .int .i64 q) (hr : min p q = r) (h : K (a.put o.dst (.int .i64 r)) w) :
    if Region.wanted o (yielded ops a.tmps) = true then Oper.wp Try.prog o a w K Q else E := by
  rw [if_pos hw]
  have e : (if q < p then q else p) = r := by rw [← hr]; split <;> omega
  have hr2 : (Builtin.min_ #[3, 3] o.type #[.int .i64 p, .int .i64 q]).run Try.prog w = .ok (.int .i64 r) w := by
    simp [Builtin.min_, Builtin.min2, e]
  unfold Oper.wp
  simp [execOp, ho, resolve, invoke, builtin, hs, hx, hr2, Result.andThen]
  exact h
theorem own_noneI {X : World} {g B : Nat} (hb : B ≤ g) (h : X.heap[g]? = some (.cells #[] 3 (0, 0))) : X.ownsRow B 3 1 (.slice (some ⟨g, 0, none⟩) 0 0) 0 [] :=
  ⟨rfl, .inr ⟨g, 0, #[], rfl, hb, h, Nat.le_refl _, by unfold maxLen; omega, rfl, rfl⟩⟩
theorem wrap_in {n : Int} (h0 : 0 ≤ n) (h1 : n ≤ 4611686018427387904) : IntKind.i64.wrap n = n := by
  simp only [IntKind.wrap, IntKind.bits, IntKind.signed]
  simp
  omega
theorem posF_len (ss : List Sp) (i : Nat) : (posF ss i).length ≤ ss.length := by
  induction ss generalizing i with
  | nil => simp [posF]
  | cons s r ih =>
    have := ih (i + 1)
    simp only [posF, List.length_cons]
    split <;> simp <;> omega
theorem pos_len (ss : List Sp) : (posP ss).length ≤ ss.length := posF_len ss 0
/-- What lies in memory behind the law's own append, with the longer pattern's slice. -/
def LgK (w : World) (P Q : Nat) (a b a2 : Option Addr) (n m c d c2 : Nat) (L : List (Sp × Value)) (win : Int) (s : Sp) (X : World) : Prop :=
  PtBox P (.slice a n c) win X ∧ SpBox (P + 1) s (.slice b m d) X ∧ SpsL X (.slice a n c) L ∧ PtBox Q (.slice a2 (n + 1) c2) win X ∧ SpsL X (.slice a2 (n + 1) c2) (L ++ [(s, .slice b m d)]) ∧ Below w.heap.size w X
theorem LgK.later {w : World} {P Q : Nat} {a b a2 : Option Addr} {n m c d c2 : Nat} {L : List (Sp × Value)} {win : Int} {s : Sp} {X Y : World} (h : LgK w P Q a b a2 n m c d c2 L win s X) (hb : Below X.heap.size X Y) : LgK w P Q a b a2 n m c d c2 L win s Y :=
  ⟨h.1.later hb, h.2.1.later hb, h.2.2.1.later hb, h.2.2.2.1.later hb, h.2.2.2.2.1.later hb, h.2.2.2.2.2.trans (hb.mono h.2.2.2.2.2.size)⟩
theorem LgK.all {w : World} {P Q : Nat} {a b a2 : Option Addr} {n m c d c2 : Nat} {L : List (Sp × Value)} {win : Int} {s : Sp} {X : World} (h : LgK w P Q a b a2 n m c d c2 L win s X) :
    (X.cell? ⟨P, 0, none⟩ = some (.slice a n c) ∧ X.cell? ⟨P, 1, none⟩ = some (.int .i64 win) ∧ X.cell? ⟨Q, 0, none⟩ = some (.slice a2 (n + 1) c2) ∧ X.cell? ⟨Q, 1, none⟩ = some (.int .i64 win) ∧
      X.cell? ⟨P + 1, 0, none⟩ = some (.bool s.neg) ∧ X.cell? ⟨P + 1, 2, none⟩ = some (.int .i64 s.min) ∧ X.cell? ⟨P + 1, 3, none⟩ = some (.int .i64 s.max) ∧ X.cell? ⟨P + 1, 5, none⟩ = some (.slice b m d)) ∧ LgK w P Q a b a2 n m c d c2 L win s X := by
  obtain ⟨z0, z1, z2, z3, z4, z5⟩ := h.2.1.cells
  exact ⟨⟨h.1.c0, h.1.c1, h.2.2.2.1.c0, h.2.2.2.1.c1, z0, z2, z3, z5⟩, h⟩
section
variable {w : World} {P Q : Nat} {a b a2 : Option Addr} {n m c d c2 : Nat} {L : List (Sp × Value)} {win : Int} {s : Sp} {X : World}
theorem lgPos1 (hS : Small (L.map (·.1))) (h : LgK w P Q a b a2 n m c d c2 L win s X) :
    Calls Try.prog 19 #[.agg #[.slice a n c, .int .i64 win]] X fun e Y => ∃ u, e = .returned u ∧ IntsAt Y u (posP (L.map (·.1))) ∧ LgK w P Q a b a2 n m c d c2 L win s Y ∧ Below X.heap.size X Y :=
  (positive_V win hS X h.2.2.1).mono fun e Y ⟨v, he, hr, hb⟩ => ⟨v, he, IntsAt.of_row hr, h.later hb, hb⟩
theorem lgPos2 (hS : Small ((L ++ [(s, Value.slice b m d)]).map (·.1))) (h : LgK w P Q a b a2 n m c d c2 L win s X) :
    Calls Try.prog 19 #[.agg #[.slice a2 (n + 1) c2, .int .i64 win]] X fun e Y => ∃ u, e = .returned u ∧ IntsAt Y u (posP ((L ++ [(s, Value.slice b m d)]).map (·.1))) ∧ LgK w P Q a b a2 n m c d c2 L win s Y ∧ Below X.heap.size X Y :=
  (positive_V win hS X h.2.2.2.2.1).mono fun e Y ⟨v, he, hr, hb⟩ => ⟨v, he, IntsAt.of_row hr, h.later hb, hb⟩
theorem lgSize1 {z : Int} (hS : Small (L.map (·.1))) (hz : sizeP (L.map (·.1)) = z) (h : LgK w P Q a b a2 n m c d c2 L win s X) :
    Calls Try.prog 21 #[.agg #[.slice a n c, .int .i64 win]] X fun e Y => e = .returned (.int .i64 z) ∧ LgK w P Q a b a2 n m c d c2 L win s Y ∧ Below X.heap.size X Y :=
  (size_V win hS X h.2.2.1).mono fun e Y ⟨he, hb⟩ => ⟨by rw [he, hz], h.later hb, hb⟩
theorem lgSize2 {z : Int} (hS : Small ((L ++ [(s, Value.slice b m d)]).map (·.1))) (hz : sizeP ((L ++ [(s, Value.slice b m d)]).map (·.1)) = z) (h : LgK w P Q a b a2 n m c d c2 L win s X) :
    Calls Try.prog 21 #[.agg #[.slice a2 (n + 1) c2, .int .i64 win]] X fun e Y => e = .returned (.int .i64 z) ∧ LgK w P Q a b a2 n m c d c2 L win s Y ∧ Below X.heap.size X Y :=
  (size_V win hS X h.2.2.2.2.1).mono fun e Y ⟨he, hb⟩ => ⟨by rw [he, hz], h.later hb, hb⟩
theorem lgInts {v u : Value} {l k : List Int} (h : LgK w P Q a b a2 n m c d c2 L win s X) (h1 : IntsAt X v l) (h2 : IntsAt X u k) (hlk : l = k) (hs : l.length ≤ 100) :
    Calls Try.prog 12 #[v, u] X fun e Y => e = .returned (.bool true) ∧ LgK w P Q a b a2 n m c d c2 L win s Y ∧ Below X.heap.size X Y :=
  (ints_any h1 h2 (Nat.le_trans hs (by omega))).mono fun e Y ⟨he, hb⟩ => ⟨by rw [he, decide_eq_true hlk], h.later hb, hb⟩
theorem lgWakes (hwk : ∀ W : World, Calls Try.prog 9 #[] W fun e W' => e = .returned (.bool true) ∧ Below W.heap.size W W') (h : LgK w P Q a b a2 n m c d c2 L win s X) :
    Calls Try.prog 9 #[] X fun e Y => e = .returned (.bool true) ∧ LgK w P Q a b a2 n m c d c2 L win s Y ∧ Below X.heap.size X Y :=
  (hwk X).mono fun e Y ⟨he, hb⟩ => ⟨he, h.later hb, hb⟩
end
/-- What wakes answers. -/
abbrev WakesOk : Prop := ∀ W : World, Calls Try.prog 9 #[] W fun e W' => e = .returned (.bool true) ∧ Below W.heap.size W W'
theorem lg_end {w w2 Wq wB : World} {a b a7 : Option Addr} {n m c d c7 : Nat} {L : List (Sp × Value)} {win : Int} {s : Sp} (hn : L.length = n)
    (hP : PtBox w.heap.size (.slice a n c) win w2) (hS : SpBox (w.heap.size + 1) s (.slice b m d) w2) (hB : Below w.heap.size w w2) (h2 : SpsL w2 (.slice a n c) L) (hs2 : CpsAt w2 (.slice b m d) s.cs)
    (hkq : Below w2.heap.size w2 Wq) (hQ : PtBox w2.heap.size (.slice a n c) win Wq) (BB : Below Wq.heap.size Wq wB)
    (hown : wB.ownsRow Wq.heap.size 36 6 (.slice a7 (n + 1) c7) (n + 1) (spsCells L ++ [.bool s.neg, .int .i64 s.kind, .int .i64 s.min, .int .i64 s.max, .bool s.strict, .slice b m d])) :
    LgEnd w w2 a b n m c d L win s (wB.setCell ⟨w2.heap.size, 0, none⟩ (.slice a7 (n + 1) c7)) := by
  have hQB := hQ.later BB
  have hK : Below w2.heap.size w2 (wB.setCell ⟨w2.heap.size, 0, none⟩ (.slice a7 (n + 1) c7)) := (hkq.trans (BB.mono hkq.size)).setCell (p := ⟨w2.heap.size, 0, none⟩) (Nat.le_refl _) _
  have h3 := h2.later hK
  refine ⟨hP.later hK, hS.later hK, h3, hB.trans (hK.mono hB.size), _, hQB.set0 _, ?_, ?_⟩
  · have hr := row_kept hown (grownBy_setCell_any wB w2.heap.size 0 (.slice a7 (n + 1) c7)) (block_is hQB 36 (by decide))
    have e : spsCells (L ++ [(s, .slice b m d)]) = spsCells L ++ [.bool s.neg, .int .i64 s.kind, .int .i64 s.min, .int .i64 s.max, .bool s.strict, .slice b m d] := by simp [spsCells]
    rw [e, show (L ++ [(s, Value.slice b m d)]).length = n + 1 by simp [hn]]
    exact cells_of_row hr
  · intro x hx
    rcases List.mem_append.1 hx with hx | hx
    · exact h3.2 x hx
    · obtain rfl := List.mem_singleton.1 hx
      exact hs2.later hK
theorem own_none {X : World} {g B : Nat} (hb : B ≤ g) (h : X.heap[g]? = some (.cells #[] 36 (0, 0))) : X.ownsRow B 36 6 (.slice (some ⟨g, 0, none⟩) 0 0) 0 [] :=
  ⟨rfl, .inr ⟨g, 0, #[], rfl, hb, h, Nat.le_refl _, by unfold maxLen; omega, rfl, rfl⟩⟩
theorem cells_new (X : World) (xs : List Value) (t : TypeId) : CellsAt (X.alloc (.cells xs.toArray t)) (some ⟨X.heap.size, 0, none⟩) xs := by
  refine .inr ⟨X.heap.size, 0, rfl, fun j v hj => ?_⟩
  have hb := World.alloc_heap_new X (.cells xs.toArray t)
  simp only [World.cell?, hb]
  simpa using hj
theorem cells_grown {X Y : World} {g g2 : Nat} {xs : List Value} (h : CellsAt X (some ⟨g2, 0, none⟩) xs) (hg : X.grownBy Y (some g)) (hne : g2 ≠ g) : CellsAt Y (some ⟨g2, 0, none⟩) xs := by
  rcases h with h | ⟨b, o, e, h⟩
  · exact .inl h
  · cases e
    exact .inr ⟨g2, 0, rfl, fun j u hj => by
      have := h j u hj
      exact (hg.cell_far _ (World.block_lt_of_cell? X _ this) (by simpa using hne)).trans this⟩
set_option maxRecDepth 100000 in
set_option maxHeartbeats 20000000 in
theorem longWalk (hwk : WakesOk) (a b : Option Addr) (n m c d : Nat) (L : List (Sp × Value)) (win : Int) (s : Sp) (w : World) (hn : L.length = n) (hm : s.cs.length = m) (hb1 : n ≤ 9223372036854775807) (hb2 : m ≤ 9223372036854775807)
    (h : SpsL w (.slice a n c) L) (hs : CpsAt w (.slice b m d) s.cs) :
    Calls Try.prog 6 #[ptV (.slice a n c) win, spV s (.slice b m d)] w fun e w' => e = .returned (.bool true) ∧ Below w.heap.size w w' := by
  have hP := (PtBox.new w (.slice a n c) win).later (kept_new _ (.cells #[.bool s.neg, .int .i64 s.kind, .int .i64 s.min, .int .i64 s.max, .bool s.strict, .slice b m d] 36))
  have hS := SpBox.new (w.alloc (.cells #[.slice a n c, .int .i64 win] 24)) s (.slice b m d)
  have hB := below_two w (.cells #[.slice a n c, .int .i64 win] 24) (.cells #[.bool s.neg, .int .i64 s.kind, .int .i64 s.min, .int .i64 s.max, .bool s.strict, .slice b m d] 36)
  have hsz : (w.alloc (.cells #[.slice a n c, .int .i64 win] 24)).heap.size = w.heap.size + 1 := by simp
  rw [hsz] at hS
  obtain ⟨W0, hW0⟩ : ∃ W0, ((w.alloc (.cells #[.slice a n c, .int .i64 win] 24)).alloc (.cells #[.bool s.neg, .int .i64 s.kind, .int .i64 s.min, .int .i64 s.max, .bool s.strict, .slice b m d] 36)) = W0 := ⟨_, rfl⟩
  rw [hW0] at hP hS hB
  have h0 := h.later hB
  have hs0 := hs.later hB
  have k0 := hP.c0
  have k1 := hP.c1
  go_enter Try.func6, Try.ntmps6
  go_wp2_with fail
  refine (great_W (v := .slice a n c) win W0 (by unfold maxLen; omega) h0).mono ?_
  rintro e w1 ⟨rfl, q1⟩
  clear k0 k1
  replace hP := hP.later q1
  replace hS := hS.later q1
  replace hB := hB.trans (q1.mono hB.size)
  clear hW0
  have k0 := hP.c0
  have k1 := hP.c1
  have y5 := hS.cells.2.2.2.2.2
  have y2 := hS.cells.2.2.1
  have y3 := hS.cells.2.2.2.1
  have y0 := hS.cells.1
  cases hG : great (L.map (·.1))
  case true =>
    go_wp2_with ((with_reducible refine (hwk _).mono ?_); rintro e w2 ⟨rfl, q2⟩)
    go_ret
    exact ⟨rfl, hB.trans (q2.mono hB.size)⟩
  case false =>
    by_cases hm20 : 20 < m
    · have h20 : (20 : Int) < m := by omega
      go_wp2_with ((with_reducible refine (hwk _).mono ?_); rintro e w2 ⟨rfl, q2⟩)
      go_ret
      exact ⟨rfl, hB.trans (q2.mono hB.size)⟩
    · have h20 : ¬ ((20 : Int) < m) := by omega
      obtain ⟨hSm, hn40, hc20⟩ := Small.of_great hG
      go_wp2_with fail
      refine (long_V (v := .slice a n c) win hSm w1 (h0.later q1)).mono ?_
      rintro e w2 ⟨rfl, q2⟩
      have h2 := (h0.later q1).later q2
      have hs2 := (hs0.later q1).later q2
      replace hP := hP.later q2
      replace hS := hS.later q2
      replace hB := hB.trans (q2.mono hB.size)
      clear k0 k1 y0 y2 y3 y5 h0 hs0 h hs
      have k0 := hP.c0
      have k1 := hP.c1
      go_wp2_with fail
      have hA := least_bd (ss := L.map (·.1)) (by have := hSm.1; omega)
      have hBb := most_bd (ss := L.map (·.1)) (by have := hSm.1; omega)
      obtain ⟨A, hAe⟩ : ∃ A, leastP (L.map (·.1)) = A := ⟨_, rfl⟩
      obtain ⟨B, hBe⟩ : ∃ B, mostP (L.map (·.1)) = B := ⟨_, rfl⟩
      rw [hAe, hBe]
      rw [hAe] at hA
      rw [hBe] at hBb
      refine wp_mono (Q := Exit.then (fun a' W => ∃ x12 x13 x14 x15 x16 x17 x18 x19 x20 x21 x22 x23 x24 x25 x26 x27 x28 x29 x30 x31 x32 x33 x34, a' = { tmps := #[ptV (.slice a n c) win, spV s (.slice b m d), .pointer (some ⟨w.heap.size, 0, none⟩), .pointer (some ⟨w.heap.size + 1, 0, none⟩), .bool false, .int .i64 A, .int .i64 B, .pointer (some ⟨w2.heap.size, 0, none⟩), undef, undef, undef, undef, x12, x13, x14, x15, x16, x17, x18, x19, x20, x21, x22, x23, x24, x25, x26, x27, x28, x29, x30, x31, x32, x33, x34, undef, undef, undef, undef, undef, undef, undef, undef, undef, undef, undef, undef, undef, undef, undef, undef, undef, undef, undef, undef, undef, undef, undef, undef, undef, undef, undef, undef, undef, undef, undef, undef, undef, undef, undef, undef, undef, undef, undef, undef, undef, undef, undef, undef, undef, undef, undef, undef, undef, undef, undef, undef, undef, undef, undef, undef, undef, undef, undef, undef, undef, undef, undef, undef, undef, undef, undef, undef, undef, undef, undef], defers := [] } ∧ LgEnd w w2 a b n m c d L win s W) (fun _ _ _ => False)) ?_ ?_
      · have hQ := PtBox.new w2 (.slice a n c) win
        obtain ⟨Wq, hWq⟩ : ∃ Wq, w2.alloc (.cells #[.slice a n c, .int .i64 win] 24) = Wq := ⟨_, rfl⟩
        have hkq : Below w2.heap.size w2 Wq := by rw [← hWq]; exact kept_new _ _
        rw [hWq] at hQ ⊢
        clear hWq
        have F : ∀ X, Below Wq.heap.size Wq X → X.cell? ⟨w.heap.size, 0, none⟩ = some (.slice a n c) ∧ X.cell? ⟨w.heap.size + 1, 0, none⟩ = some (.bool s.neg) ∧ X.cell? ⟨w.heap.size + 1, 1, none⟩ = some (.int .i64 s.kind) ∧ X.cell? ⟨w.heap.size + 1, 2, none⟩ = some (.int .i64 s.min) ∧
            X.cell? ⟨w.heap.size + 1, 3, none⟩ = some (.int .i64 s.max) ∧ X.cell? ⟨w.heap.size + 1, 4, none⟩ = some (.bool s.strict) ∧ X.cell? ⟨w.heap.size + 1, 5, none⟩ = some (.slice b m d) ∧ X.cell? ⟨w2.heap.size, 0, none⟩ = some (.slice a n c) ∧ X.frozen? ⟨w2.heap.size, 0, none⟩ = false := fun X hX => by
          have hX2 := hkq.trans (hX.mono hkq.size)
          obtain ⟨z0, z1, z2, z3, z4, z5⟩ := (hS.later hX2).cells
          exact ⟨(hP.later hX2).c0, z0, z1, z2, z3, z4, z5, (hQ.later hX).c0, (hQ.later hX).f 0⟩
        have D0 := (Below.refl Wq.heap.size Wq).drew
        have hsd : Wq.drew.heap.size = Wq.heap.size := rfl
        have B1 := (kept_new Wq (.cells #[] 36)).drew
        have B2 := (kept_new Wq (.cells #[.bool s.neg, .int .i64 s.kind, .int .i64 s.min, .int .i64 s.max, .bool s.strict, .slice b m d] 36)).drew
        have B12 := (kept_alloc (kept_new Wq (.cells #[] 36)) (.cells #[.bool s.neg, .int .i64 s.kind, .int .i64 s.min, .int .i64 s.max, .bool s.strict, .slice b m d] 36)).drew
        have B21 := (kept_alloc (kept_new Wq (.cells #[.bool s.neg, .int .i64 s.kind, .int .i64 s.min, .int .i64 s.max, .bool s.strict, .slice b m d] 36)) (.cells #[] 36)).drew
        obtain ⟨e00, e01, e02, e03, e04, e05, e06, e07, e08⟩ := F _ D0
        obtain ⟨e10, e11, e12, e13, e14, e15, e16, e17, e18⟩ := F _ B1
        obtain ⟨e20, e21, e22, e23, e24, e25, e26, e27, e28⟩ := F _ B2
        obtain ⟨e30, e31, e32, e33, e34, e35, e36, e37, e38⟩ := F _ B12
        obtain ⟨e40, e41, e42, e43, e44, e45, e46, e47, e48⟩ := F _ B21
        obtain ⟨j0, hj, hy0, hy1, hy2⟩ := info_parts Try.info36
        replace hj := Lib.hid hj
        have hl6 : (spsCells L).length = n * 6 := by rw [spsCells_len, hn]
        have hsone := sps_one h2.2
        have hn41 : n ≤ 40 := by simpa [hn] using hn40
        have gg : ∀ (X : World), Below Wq.heap.size Wq X → CellsAt X a (spsCells L) := fun X hX => by
          obtain ⟨a', c', e, hc⟩ := (h2.later (hkq.trans (hX.mono hkq.size))).1
          rw [hn] at e
          obtain ⟨rfl, rfl⟩ := slice_eq e
          exact hc
        have a27 : ((Wq.alloc (.cells #[] 36)).drew).heap[Wq.heap.size]? = some (.cells #[] 36 (0, 0)) := World.alloc_heap_new Wq _
        have own1 := own_none (Nat.le_refl Wq.heap.size) a27
        have a27a : (((Wq.alloc (.cells #[] 36)).alloc (.cells #[.bool s.neg, .int .i64 s.kind, .int .i64 s.min, .int .i64 s.max, .bool s.strict, .slice b m d] 36)).drew).heap[Wq.heap.size]? = some (.cells #[] 36 (0, 0)) := ((kept_new (Wq.alloc (.cells #[] 36)) (.cells #[.bool s.neg, .int .i64 s.kind, .int .i64 s.min, .int .i64 s.max, .bool s.strict, .slice b m d] 36)).block _ (Array.getElem?_eq_some_iff.1 a27).1).trans a27
        have own12 := own_none (Nat.le_refl Wq.heap.size) a27a
        have a27b : (((Wq.alloc (.cells #[.bool s.neg, .int .i64 s.kind, .int .i64 s.min, .int .i64 s.max, .bool s.strict, .slice b m d] 36)).alloc (.cells #[] 36)).drew).heap[Wq.heap.size + 1]? = some (.cells #[] 36 (0, 0)) := by
          have := World.alloc_heap_new (Wq.alloc (.cells #[.bool s.neg, .int .i64 s.kind, .int .i64 s.min, .int .i64 s.max, .bool s.strict, .slice b m d] 36)) (.cells #[] 36)
          rw [World.size_alloc] at this
          exact this
        have own21 := own_none (Nat.le_succ Wq.heap.size) a27b
        have z12 : CellsAt ((Wq.alloc (.cells #[] 36)).alloc (.cells #[.bool s.neg, .int .i64 s.kind, .int .i64 s.min, .int .i64 s.max, .bool s.strict, .slice b m d] 36)).drew (some ⟨Wq.heap.size + 1, 0, none⟩) [.bool s.neg, .int .i64 s.kind, .int .i64 s.min, .int .i64 s.max, .bool s.strict, .slice b m d] := by
          have := cells_new (Wq.alloc (.cells #[] 36)) [.bool s.neg, .int .i64 s.kind, .int .i64 s.min, .int .i64 s.max, .bool s.strict, .slice b m d] 36
          rw [World.size_alloc] at this
          exact this.later (Below.refl _ _).drew
        have z21 : CellsAt ((Wq.alloc (.cells #[.bool s.neg, .int .i64 s.kind, .int .i64 s.min, .int .i64 s.max, .bool s.strict, .slice b m d] 36)).alloc (.cells #[] 36)).drew (some ⟨Wq.heap.size, 0, none⟩) [.bool s.neg, .int .i64 s.kind, .int .i64 s.min, .int .i64 s.max, .bool s.strict, .slice b m d] :=
          (cells_new Wq [.bool s.neg, .int .i64 s.kind, .int .i64 s.min, .int .i64 s.max, .bool s.strict, .slice b m d] 36).later (kept_new _ _).drew
        have g1 : ∀ {Y : World}, ((Wq.alloc (.cells #[] 36)).drew).grownBy Y (some Wq.heap.size) → Below Wq.heap.size Wq Y := fun h => B1.grown h B1.size (fun j ej => by cases ej; exact Nat.le_refl _)
        have g12 : ∀ {Y : World}, (((Wq.alloc (.cells #[] 36)).alloc (.cells #[.bool s.neg, .int .i64 s.kind, .int .i64 s.min, .int .i64 s.max, .bool s.strict, .slice b m d] 36)).drew).grownBy Y (some Wq.heap.size) → Below Wq.heap.size Wq Y := fun h => B12.grown h B12.size (fun j ej => by cases ej; exact Nat.le_refl _)
        have g21 : ∀ {Y : World}, (((Wq.alloc (.cells #[.bool s.neg, .int .i64 s.kind, .int .i64 s.min, .int .i64 s.max, .bool s.strict, .slice b m d] 36)).alloc (.cells #[] 36)).drew).grownBy Y (some (Wq.heap.size + 1)) → Below Wq.heap.size Wq Y := fun h => B21.grown h B21.size (fun j ej => by cases ej; exact Nat.le_succ _)
        have cc1 := gg _ B1
        have cc12 := gg _ B12
        have cc21 := gg _ B21
        have e1 : ∀ u ∈ ([.bool s.neg, .int .i64 s.kind, .int .i64 s.min, .int .i64 s.max, .bool s.strict, .slice b m d] : List Value), u.oneCell' = true := by simp [Value.oneCell']
        go_region_law (first
          | (refine step_append_cells (by rfl) (.tmp 27) (.tmp 29) 22 (by rfl) Wq.heap.size 36 j0 _ 6 64 Try.underlying22 hj.out hy0 hy1 hy2 rfl (by decide) (.slice (some ⟨Wq.heap.size, 0, none⟩) 0 0) 0 [] (by rfl) own1 a n c (spsCells L) (by rfl) hl6 cc1 hsone (by unfold maxLen; omega) (by omega) B1.size ?_; intro v' wA hownA hgrowA; rw [Nat.zero_add, List.nil_append] at hownA; obtain ⟨a6, c6, rfl, -⟩ := cells_of_row hownA; have BA : Below Wq.heap.size Wq wA := g1 hgrowA; have BA2 := kept_alloc BA (.cells #[.bool s.neg, .int .i64 s.kind, .int .i64 s.min, .int .i64 s.max, .bool s.strict, .slice b m d] 36); obtain ⟨ea0, ea1, ea2, ea3, ea4, ea5, ea6, ea7, ea8⟩ := F _ BA; obtain ⟨eb0, eb1, eb2, eb3, eb4, eb5, eb6, eb7, eb8⟩ := F _ BA2)
          | (refine step_append_cells (by rfl) (.tmp 27) (.tmp 29) 22 (by rfl) Wq.heap.size 36 j0 _ 6 64 Try.underlying22 hj.out hy0 hy1 hy2 rfl (by decide) (.slice (some ⟨Wq.heap.size, 0, none⟩) 0 0) 0 [] (by rfl) own12 a n c (spsCells L) (by rfl) hl6 cc12 hsone (by unfold maxLen; omega) (by omega) B12.size ?_; intro v' wA hownA hgrowA; rw [Nat.zero_add, List.nil_append] at hownA; obtain ⟨a6, c6, rfl, -⟩ := cells_of_row hownA; have BA : Below Wq.heap.size Wq wA := g12 hgrowA; have h32 := cells_grown (g := Wq.heap.size) z12 hgrowA (Nat.succ_ne_self _); have BA2 := kept_alloc BA (.cells #[.bool s.neg, .int .i64 s.kind, .int .i64 s.min, .int .i64 s.max, .bool s.strict, .slice b m d] 36); obtain ⟨ea0, ea1, ea2, ea3, ea4, ea5, ea6, ea7, ea8⟩ := F _ BA; obtain ⟨eb0, eb1, eb2, eb3, eb4, eb5, eb6, eb7, eb8⟩ := F _ BA2)
          | (refine step_append_cells (by rfl) (.tmp 27) (.tmp 29) 22 (by rfl) Wq.heap.size 36 j0 _ 6 64 Try.underlying22 hj.out hy0 hy1 hy2 rfl (by decide) (.slice (some ⟨Wq.heap.size + 1, 0, none⟩) 0 0) 0 [] (by rfl) own21 a n c (spsCells L) (by rfl) hl6 cc21 hsone (by unfold maxLen; omega) (by omega) B21.size ?_; intro v' wA hownA hgrowA; rw [Nat.zero_add, List.nil_append] at hownA; obtain ⟨a6, c6, rfl, -⟩ := cells_of_row hownA; have BA : Below Wq.heap.size Wq wA := g21 hgrowA; have h32 := cells_grown (g := Wq.heap.size + 1) z21 hgrowA (Nat.succ_ne_self _).symm; have BA2 := kept_alloc BA (.cells #[.bool s.neg, .int .i64 s.kind, .int .i64 s.min, .int .i64 s.max, .bool s.strict, .slice b m d] 36); obtain ⟨ea0, ea1, ea2, ea3, ea4, ea5, ea6, ea7, ea8⟩ := F _ BA; obtain ⟨eb0, eb1, eb2, eb3, eb4, eb5, eb6, eb7, eb8⟩ := F _ BA2)
          | (refine step_append_cells (by rfl) (.tmp 30) (.tmp 32) 22 (by rfl) Wq.heap.size 36 j0 _ 6 64 Try.underlying22 hj.out hy0 hy1 hy2 rfl (by decide) (.slice a6 n c6) n (spsCells L) (by rfl) (by first | exact hownA | exact hownA.alloc _) _ 1 1 [.bool s.neg, .int .i64 s.kind, .int .i64 s.min, .int .i64 s.max, .bool s.strict, .slice b m d] (by rfl) rfl (by first | exact h32 | exact cells_new wA [.bool s.neg, .int .i64 s.kind, .int .i64 s.min, .int .i64 s.max, .bool s.strict, .slice b m d] 36) e1 (by unfold maxLen; omega) (by omega) (by first | exact BA.size | exact BA2.size) ?_; intro v2 wB hownB hgrowB; obtain ⟨a7, c7, rfl, -⟩ := cells_of_row hownB; have BB : Below Wq.heap.size Wq wB := (by first | exact BA.grown hgrowB BA.size (fun j ej => (hownA.lt j ej).1) | exact BA2.grown hgrowB BA2.size (fun j ej => (hownA.lt j ej).1)); obtain ⟨ec0, ec1, ec2, ec3, ec4, ec5, ec6, ec7, ec8⟩ := F _ BB)
          | fail)
        all_goals exact ⟨_, _, _, _, _, _, _, _, _, _, _, _, _, _, _, _, _, _, _, _, _, _, _, rfl, lg_end hn hP hS hB h2 hs2 hkq hQ BB hownB⟩
      · rintro e a' W hQ
        cases e <;> first | exact hQ.elim | skip
        obtain ⟨x12, x13, x14, x15, x16, x17, x18, x19, x20, x21, x22, x23, x24, x25, x26, x27, x28, x29, x30, x31, x32, x33, x34, rfl, eP, eS, eL, eB, v2, eQ, eL2⟩ := hQ
        have hmap : (L ++ [(s, Value.slice b m d)]).map (·.1) = L.map (·.1) ++ [s] := by simp
        have hSm2 : Small ((L ++ [(s, Value.slice b m d)]).map (·.1)) := by
          rw [hmap]
          refine ⟨by rw [List.length_append, List.length_singleton]; omega, ?_⟩
          intro s' hs'
          rcases List.mem_append.1 hs' with hs' | hs'
          · exact hSm.2 s' hs'
          · obtain rfl := List.mem_singleton.1 hs'
            omega
        have hn2 : (L ++ [(s, Value.slice b m d)]).length = n + 1 := by simp [hn]
        obtain ⟨a2, c2, rfl⟩ := eL2.lit hn2
        have k0 := eP.c0
        have k1 := eP.c1
        have r0 := eQ.c0
        have r1 := eQ.c1
        obtain ⟨A2, hA2⟩ : ∃ A2, leastP ((L ++ [(s, Value.slice b m d)]).map (·.1)) = A2 := ⟨_, rfl⟩
        obtain ⟨B2, hB2⟩ : ∃ B2, mostP ((L ++ [(s, Value.slice b m d)]).map (·.1)) = B2 := ⟨_, rfl⟩
        go_wp2_with fail
        refine (long_V (v := .slice a2 (n + 1) c2) win hSm2 W eL2).mono ?_
        rintro e w5 ⟨rfl, q5⟩
        rw [hA2, hB2]
        rw [hmap, least_snoc, hAe] at hA2
        rw [hmap, most_snoc, hBe] at hB2
        have hK5 : LgK w w.heap.size w2.heap.size a b a2 n m c d c2 L win s w5 := ⟨eP.later q5, eS.later q5, eL.later q5, eQ.later q5, eL2.later q5, eB.trans (q5.mono eB.size)⟩
        replace hA2 := Lib.hid hA2
        replace hB2 := Lib.hid hB2
        clear k0 k1 r0 r1 eP eS eL eQ eL2 eB q5
        go_wp2_with fail
        refine wp_mono (Q := Exit.then (fun a' X => ∃ u1 u2 x12 x13 x14 x15 x16 x17 x18 x19 x20 x21 x22 x23 x24 x25 x26 x27 x28 x29 x30 x31 x32 x33 x34 x35 x36 x37 x38 x39 x40 x41 x42 x43, a' = { tmps := #[ptV (.slice a n c) win, spV s (.slice b m d), .pointer (some ⟨w.heap.size, 0, none⟩), .pointer (some ⟨w.heap.size + 1, 0, none⟩), .bool false, .int .i64 A, .int .i64 B, .pointer (some ⟨w2.heap.size, 0, none⟩), .int .i64 A2, .int .i64 B2, u1, u2, x12, x13, x14, x15, x16, x17, x18, x19, x20, x21, x22, x23, x24, x25, x26, x27, x28, x29, x30, x31, x32, x33, x34, x35, x36, x37, x38, x39, x40, x41, x42, x43, undef, undef, undef, undef, undef, undef, undef, undef, undef, undef, undef, undef, undef, undef, undef, undef, undef, undef, undef, undef, undef, undef, undef, undef, undef, undef, undef, undef, undef, undef, undef, undef, undef, undef, undef, undef, undef, undef, undef, undef, undef, undef, undef, undef, undef, undef, undef, undef, undef, undef, undef, undef, undef, undef, undef, undef, undef, undef, undef, undef, undef, undef], defers := [] } ∧ LgK w w.heap.size w2.heap.size a b a2 n m c d c2 L win s X ∧ IntsAt X u1 (posP (L.map (·.1))) ∧ IntsAt X u2 (posP ((L ++ [(s, Value.slice b m d)]).map (·.1)))) (fun _ _ _ => False)) ?_ ?_
        · have hK5d := hK5.later (Below.refl _ _).drew
          go_region_held3 (fun X => (X.cell? ⟨w.heap.size, 0, none⟩ = some (.slice a n c) ∧ X.cell? ⟨w.heap.size, 1, none⟩ = some (.int .i64 win) ∧ X.cell? ⟨w2.heap.size, 0, none⟩ = some (.slice a2 (n + 1) c2) ∧ X.cell? ⟨w2.heap.size, 1, none⟩ = some (.int .i64 win) ∧ X.cell? ⟨w.heap.size + 1, 0, none⟩ = some (.bool s.neg) ∧ X.cell? ⟨w.heap.size + 1, 2, none⟩ = some (.int .i64 s.min) ∧ X.cell? ⟨w.heap.size + 1, 3, none⟩ = some (.int .i64 s.max) ∧ X.cell? ⟨w.heap.size + 1, 5, none⟩ = some (.slice b m d)) ∧ LgK w w.heap.size w2.heap.size a b a2 n m c d c2 L win s X) (first | exact LgK.all hK5d | (try go_split_ands); exact LgK.all ‹LgK w w.heap.size w2.heap.size a b a2 n m c d c2 L win s _›) (first
            | (go_at_call 19; (try go_split_ands); (with_reducible refine (lgPos1 hSm ‹LgK w w.heap.size w2.heap.size a b a2 n m c d c2 L win s _›).mono ?_); rintro e X ⟨u1, rfl, hI1, hK1, hb1'⟩)
            | (go_at_call 19; (try go_split_ands); (with_reducible refine (lgPos2 hSm2 ‹LgK w w.heap.size w2.heap.size a b a2 n m c d c2 L win s _›).mono ?_); rintro e X ⟨u2, rfl, hI2, hK2, hb2'⟩)
            | fail)
          all_goals exact ⟨u1, u2, _, _, _, _, _, _, _, _, _, _, _, _, _, _, _, _, _, _, _, _, _, _, _, _, _, _, _, _, _, _, _, _, rfl, hK2, hI1.later hb2', hI2⟩
        · clear hK5
          rintro e a' w6 hQ
          cases e <;> first | exact hQ.elim | skip
          obtain ⟨u1, u2, x12, x13, x14, x15, x16, x17, x18, x19, x20, x21, x22, x23, x24, x25, x26, x27, x28, x29, x30, x31, x32, x33, x34, x35, x36, x37, x38, x39, x40, x41, x42, x43, rfl, hK6, hI1, hI2⟩ := hQ
          go_wp2_with fail
          obtain ⟨z1, hz1⟩ : ∃ z1, sizeP (L.map (·.1)) = z1 := ⟨_, rfl⟩
          have hzb := size_bd hSm.fair
          rw [hz1] at hzb
          have hz2 : sizeP ((L ++ [(s, Value.slice b m d)]).map (·.1)) = z1 + 1 + 3 * (m : Int) := by rw [hmap, size_snoc, hz1, hm]
          have hm20' : (m : Int) ≤ 20 := by omega
          have hwr : (z1 + 1 + 3 * (m : Int) != IntKind.i64.wrap (IntKind.i64.wrap (z1 + 1) + IntKind.i64.wrap (3 * (m : Int)))) = false := by
            rw [wrap_in (n := z1 + 1) (by omega) (by omega), wrap_in (n := 3 * (m : Int)) (by omega) (by omega), wrap_in (n := z1 + 1 + 3 * (m : Int)) (by omega) (by omega)]
            simp
          refine wp_mono (Q := Exit.then (fun a' X => ∃ x12 x13 x14 x15 x16 x17 x18 x19 x20 x21 x22 x23 x24 x25 x26 x27 x28 x29 x30 x31 x32 x33 x34 x35 x36 x37 x38 x39 x40 x41 x42 x43 x44 x45 x46 x47 x48 x49 x50 x51 x52 x53, a' = { tmps := #[ptV (.slice a n c) win, spV s (.slice b m d), .pointer (some ⟨w.heap.size, 0, none⟩), .pointer (some ⟨w.heap.size + 1, 0, none⟩), .bool false, .int .i64 A, .int .i64 B, .pointer (some ⟨w2.heap.size, 0, none⟩), .int .i64 A2, .int .i64 B2, u1, u2, x12, x13, x14, x15, x16, x17, x18, x19, x20, x21, x22, x23, x24, x25, x26, x27, x28, x29, x30, x31, x32, x33, x34, x35, x36, x37, x38, x39, x40, x41, x42, x43, x44, x45, x46, x47, x48, x49, x50, x51, x52, x53, .bool false, undef, undef, undef, undef, undef, undef, undef, undef, undef, undef, undef, undef, undef, undef, undef, undef, undef, undef, undef, undef, undef, undef, undef, undef, undef, undef, undef, undef, undef, undef, undef, undef, undef, undef, undef, undef, undef, undef, undef, undef, undef, undef, undef, undef, undef, undef, undef, undef, undef, undef, undef], defers := [] } ∧ LgK w w.heap.size w2.heap.size a b a2 n m c d c2 L win s X ∧ IntsAt X u1 (posP (L.map (·.1))) ∧ IntsAt X u2 (posP ((L ++ [(s, Value.slice b m d)]).map (·.1)))) (fun _ _ _ => False)) ?_ ?_
          · have hK6d := hK6.later (Below.refl _ _).drew
            go_region_held3 (fun X => (X.cell? ⟨w.heap.size, 0, none⟩ = some (.slice a n c) ∧ X.cell? ⟨w.heap.size, 1, none⟩ = some (.int .i64 win) ∧ X.cell? ⟨w2.heap.size, 0, none⟩ = some (.slice a2 (n + 1) c2) ∧ X.cell? ⟨w2.heap.size, 1, none⟩ = some (.int .i64 win) ∧ X.cell? ⟨w.heap.size + 1, 0, none⟩ = some (.bool s.neg) ∧ X.cell? ⟨w.heap.size + 1, 2, none⟩ = some (.int .i64 s.min) ∧ X.cell? ⟨w.heap.size + 1, 3, none⟩ = some (.int .i64 s.max) ∧ X.cell? ⟨w.heap.size + 1, 5, none⟩ = some (.slice b m d)) ∧ LgK w w.heap.size w2.heap.size a b a2 n m c d c2 L win s X) (first | exact LgK.all hK6d | (try go_split_ands); exact LgK.all ‹LgK w w.heap.size w2.heap.size a b a2 n m c d c2 L win s _›) (first
              | (go_at_call 21; (try go_split_ands); (with_reducible refine (lgSize1 hSm hz1 ‹LgK w w.heap.size w2.heap.size a b a2 n m c d c2 L win s _›).mono ?_); rintro e X ⟨rfl, hK1, hb1'⟩)
              | (go_at_call 21; (try go_split_ands); (with_reducible refine (lgSize2 hSm2 hz2 ‹LgK w w.heap.size w2.heap.size a b a2 n m c d c2 L win s _›).mono ?_); rintro e X ⟨rfl, hK2, hb2'⟩)
              | fail)
            all_goals (try rw [hwr])
            all_goals exact ⟨_, _, _, _, _, _, _, _, _, _, _, _, _, _, _, _, _, _, _, _, _, _, _, _, _, _, _, _, _, _, _, _, _, _, _, _, _, _, _, _, _, _, rfl, hK1, ((hI1.later (Below.refl _ _).drew).later hb2').later hb1', ((hI2.later (Below.refl _ _).drew).later hb2').later hb1'⟩
          · clear hK6
            rintro e a' w7 hQ
            cases e <;> first | exact hQ.elim | skip
            obtain ⟨x12, x13, x14, x15, x16, x17, x18, x19, x20, x21, x22, x23, x24, x25, x26, x27, x28, x29, x30, x31, x32, x33, x34, x35, x36, x37, x38, x39, x40, x41, x42, x43, x44, x45, x46, x47, x48, x49, x50, x51, x52, x53, rfl, hK7, hI1, hI2⟩ := hQ
            obtain ⟨y0, y2, y3, y5⟩ : w7.cell? ⟨w.heap.size + 1, 0, none⟩ = some (.bool s.neg) ∧ w7.cell? ⟨w.heap.size + 1, 2, none⟩ = some (.int .i64 s.min) ∧ w7.cell? ⟨w.heap.size + 1, 3, none⟩ = some (.int .i64 s.max) ∧ w7.cell? ⟨w.heap.size + 1, 5, none⟩ = some (.slice b m d) := hK7.all.1.2.2.2.2
            have hpl : (posP (L.map (·.1))).length ≤ 100 := by
              have := pos_len (L.map (·.1))
              have := hSm.1
              omega
            cases hneg : s.neg
            case true =>
              have eA : A2 = A := by have := hA2.out; rw [hneg] at this; simpa using this.symm
              have eB : B2 = B := by have := hB2.out; rw [hneg] at this; simpa using this.symm
              have hpp : posP (L.map (·.1)) = posP ((L ++ [(s, Value.slice b m d)]).map (·.1)) := by rw [hmap, pos_snoc, hneg]; simp
              subst eA eB
              rw [hneg] at y0
              clear hA2 hB2
              go_wp2_with (first
                | ((with_reducible refine (lgInts hK7 hI1 hI2 hpp hpl).mono ?_); rintro e w8 ⟨rfl, hK8, hb8⟩)
                | ((with_reducible refine (lgWakes hwk hK8).mono ?_); rintro e w9 ⟨rfl, hK9, hb9⟩))
              go_ret
              exact ⟨rfl, hK9.2.2.2.2.2⟩
            case false =>
              have eA : A2 = A + within s.min := by have := hA2.out; rw [hneg] at this; simpa using this.symm
              have eB : B2 = B + within s.max := by have := hB2.out; rw [hneg] at this; simpa using this.symm
              have hpp : posP ((L ++ [(s, Value.slice b m d)]).map (·.1)) = posP (L.map (·.1)) ++ [(n : Int)] := by rw [hmap, pos_snoc, hneg]; simp [hn]
              rw [hneg] at y0
              clear hA2 hB2
              have wb1 := within_bd s.min
              have wb2 := within_bd s.max
              have wA : IntKind.i64.wrap (A + within s.min) = A + within s.min := wrap_in (by omega) (by omega)
              have wB : IntKind.i64.wrap (B + within s.max) = B + within s.max := wrap_in (by omega) (by omega)
              subst eA eB
              go_wp2_with fail
              clear y0 y2 y3 y5
              obtain ⟨ll, hll⟩ : ∃ ll, posP (L.map (·.1)) = ll := ⟨_, rfl⟩
              rw [hll] at hI1 hpp hpl
              obtain ⟨k1, hk1⟩ : ∃ k1, ll.length = k1 := ⟨_, rfl⟩
              rw [hk1] at hpl
              obtain ⟨b1, c9, rfl⟩ := hI1.lit hk1
              obtain ⟨b1', c9', e9, hi1⟩ := hI1
              rw [hk1] at e9
              obtain ⟨rfl, rfl⟩ := slice_eq e9
              clear e9
              obtain ⟨i0, hi, hz0, hz9, hz2'⟩ := info_parts Try.info3
              replace hi := Lib.hid hi
              have hK7d := hK7.later (Below.refl _ _).drew
              have D0 := (Below.refl w7.heap.size w7).drew
              have B1 := (kept_new w7 (.cells #[] 3)).drew
              have B2 := (kept_new w7 (.cells #[.int .i64 n] 3)).drew
              have B12 := (kept_alloc (kept_new w7 (.cells #[] 3)) (.cells #[.int .i64 n] 3)).drew
              have B21 := (kept_alloc (kept_new w7 (.cells #[.int .i64 n] 3)) (.cells #[] 3)).drew
              have hil : (ints ll).length = k1 * 1 := by simp [ints, hk1]
              have hione : ∀ u ∈ ints ll, u.oneCell' = true := by simp [ints, Value.oneCell']
              have a27 : ((w7.alloc (.cells #[] 3)).drew).heap[w7.heap.size]? = some (.cells #[] 3 (0, 0)) := World.alloc_heap_new w7 _
              have own1 := own_noneI (Nat.le_refl w7.heap.size) a27
              have a27a : (((w7.alloc (.cells #[] 3)).alloc (.cells #[.int .i64 n] 3)).drew).heap[w7.heap.size]? = some (.cells #[] 3 (0, 0)) := ((kept_new (w7.alloc (.cells #[] 3)) (.cells #[.int .i64 n] 3)).block _ (Array.getElem?_eq_some_iff.1 a27).1).trans a27
              have own12 := own_noneI (Nat.le_refl w7.heap.size) a27a
              have a27b : (((w7.alloc (.cells #[.int .i64 n] 3)).alloc (.cells #[] 3)).drew).heap[w7.heap.size + 1]? = some (.cells #[] 3 (0, 0)) := by
                have := World.alloc_heap_new (w7.alloc (.cells #[.int .i64 n] 3)) (.cells #[] 3)
                rw [World.size_alloc] at this
                exact this
              have own21 := own_noneI (Nat.le_succ w7.heap.size) a27b
              have z12 : CellsAt ((w7.alloc (.cells #[] 3)).alloc (.cells #[.int .i64 n] 3)).drew (some ⟨w7.heap.size + 1, 0, none⟩) [.int .i64 n] := by
                have := cells_new (w7.alloc (.cells #[] 3)) [.int .i64 n] 3
                rw [World.size_alloc] at this
                exact this.later (Below.refl _ _).drew
              have z21 : CellsAt ((w7.alloc (.cells #[.int .i64 n] 3)).alloc (.cells #[] 3)).drew (some ⟨w7.heap.size, 0, none⟩) [.int .i64 n] := (cells_new w7 [.int .i64 n] 3).later (kept_new _ _).drew
              have g1 : ∀ {Y : World}, ((w7.alloc (.cells #[] 3)).drew).grownBy Y (some w7.heap.size) → Below w7.heap.size w7 Y := fun h => B1.grown h B1.size (fun j ej => by cases ej; exact Nat.le_refl _)
              have g12 : ∀ {Y : World}, (((w7.alloc (.cells #[] 3)).alloc (.cells #[.int .i64 n] 3)).drew).grownBy Y (some w7.heap.size) → Below w7.heap.size w7 Y := fun h => B12.grown h B12.size (fun j ej => by cases ej; exact Nat.le_refl _)
              have g21 : ∀ {Y : World}, (((w7.alloc (.cells #[.int .i64 n] 3)).alloc (.cells #[] 3)).drew).grownBy Y (some (w7.heap.size + 1)) → Below w7.heap.size w7 Y := fun h => B21.grown h B21.size (fun j ej => by cases ej; exact Nat.le_succ _)
              have hints : ints ll ++ [.int .i64 n] = ints (ll ++ [(n : Int)]) := by simp [ints]
              have hkl : k1 + 1 = (ll ++ [(n : Int)]).length := by simp [hk1]
              have hk7 : (posP ((L ++ [(s, Value.slice b m d)]).map (·.1))).length ≤ 100 := by
                have := pos_len ((L ++ [(s, Value.slice b m d)]).map (·.1))
                have := hSm2.1
                omega
              go_region_held3 (fun X => (X.cell? ⟨w.heap.size, 0, none⟩ = some (.slice a n c) ∧ X.cell? ⟨w.heap.size, 1, none⟩ = some (.int .i64 win) ∧ X.cell? ⟨w2.heap.size, 0, none⟩ = some (.slice a2 (n + 1) c2) ∧ X.cell? ⟨w2.heap.size, 1, none⟩ = some (.int .i64 win) ∧ X.cell? ⟨w.heap.size + 1, 0, none⟩ = some (.bool s.neg) ∧ X.cell? ⟨w.heap.size + 1, 2, none⟩ = some (.int .i64 s.min) ∧ X.cell? ⟨w.heap.size + 1, 3, none⟩ = some (.int .i64 s.max) ∧ X.cell? ⟨w.heap.size + 1, 5, none⟩ = some (.slice b m d)) ∧ LgK w w.heap.size w2.heap.size a b a2 n m c d c2 L win s X) (first | exact LgK.all hK7d | (try go_split_ands); first | exact LgK.all (hK7.later (by assumption)) | exact LgK.all ‹LgK w w.heap.size w2.heap.size a b a2 n m c d c2 L win s _›) (first
                | (refine step_append_guarded (by rfl) (.tmp 93) (.tmp 94) 32 (by rfl) w7.heap.size 3 i0 _ 1 8 Try.underlying32 hi.out hz0 hz9 hz2' rfl (by decide) (.slice (some ⟨w7.heap.size, 0, none⟩) 0 0) 0 [] (by rfl) own1 b1 k1 c9 (ints ll) (by rfl) hil (hi1.later B1) hione (by unfold maxLen; omega) (by omega) B1.size ?_; intro v' wA hownA hgrowA; rw [Nat.zero_add, List.nil_append] at hownA; obtain ⟨a6, c6, rfl, -⟩ := cells_of_row hownA; have BA : Below w7.heap.size w7 wA := g1 hgrowA; have BA2 := kept_alloc BA (.cells #[.int .i64 n] 3))
                | (refine step_append_guarded (by rfl) (.tmp 93) (.tmp 94) 32 (by rfl) w7.heap.size 3 i0 _ 1 8 Try.underlying32 hi.out hz0 hz9 hz2' rfl (by decide) (.slice (some ⟨w7.heap.size, 0, none⟩) 0 0) 0 [] (by rfl) own12 b1 k1 c9 (ints ll) (by rfl) hil (hi1.later B12) hione (by unfold maxLen; omega) (by omega) B12.size ?_; intro v' wA hownA hgrowA; rw [Nat.zero_add, List.nil_append] at hownA; obtain ⟨a6, c6, rfl, -⟩ := cells_of_row hownA; have BA : Below w7.heap.size w7 wA := g12 hgrowA; have h32 := cells_grown (g := w7.heap.size) z12 hgrowA (Nat.succ_ne_self _); have BA2 := kept_alloc BA (.cells #[.int .i64 n] 3))
                | (refine step_append_guarded (by rfl) (.tmp 93) (.tmp 94) 32 (by rfl) w7.heap.size 3 i0 _ 1 8 Try.underlying32 hi.out hz0 hz9 hz2' rfl (by decide) (.slice (some ⟨w7.heap.size + 1, 0, none⟩) 0 0) 0 [] (by rfl) own21 b1 k1 c9 (ints ll) (by rfl) hil (hi1.later B21) hione (by unfold maxLen; omega) (by omega) B21.size ?_; intro v' wA hownA hgrowA; rw [Nat.zero_add, List.nil_append] at hownA; obtain ⟨a6, c6, rfl, -⟩ := cells_of_row hownA; have BA : Below w7.heap.size w7 wA := g21 hgrowA; have h32 := cells_grown (g := w7.heap.size + 1) z21 hgrowA (Nat.succ_ne_self _).symm; have BA2 := kept_alloc BA (.cells #[.int .i64 n] 3))
                | (refine step_max (by rfl) (.tmp 76) (.const (.int .i64 0)) (by rfl) s.min 0 (max s.min 0) (by rfl) (by rfl) rfl ?_)
                | (refine step_min (by rfl) (.tmp 77) (.const (.int .i64 1099511627776)) (by rfl) (max s.min 0) 1099511627776 (within s.min) (by rfl) (by rfl) rfl ?_)
                | (refine step_max (by rfl) (.tmp 85) (.const (.int .i64 0)) (by rfl) s.max 0 (max s.max 0) (by rfl) (by rfl) rfl ?_)
                | (refine step_min (by rfl) (.tmp 86) (.const (.int .i64 1099511627776)) (by rfl) (max s.max 0) 1099511627776 (within s.max) (by rfl) (by rfl) rfl ?_)
                | (refine step_append_guarded (by rfl) (.tmp 95) (.tmp 99) 32 (by rfl) w7.heap.size 3 i0 _ 1 8 Try.underlying32 hi.out hz0 hz9 hz2' rfl (by decide) (.slice a6 k1 c6) k1 (ints ll) (by rfl) (by first | exact hownA | exact hownA.alloc _) _ 1 1 [.int .i64 n] (by rfl) rfl (by first | exact h32 | exact cells_new wA [.int .i64 n] 3) (by simp [Value.oneCell']) (by unfold maxLen; omega) (by omega) (by first | exact BA.size | exact BA2.size) ?_; intro v2 wB hownB hgrowB; have BB : Below w7.heap.size w7 wB := (by first | exact BA.grown hgrowB BA.size (fun j ej => (hownA.lt j ej).1) | exact BA2.grown hgrowB BA2.size (fun j ej => (hownA.lt j ej).1)); rw [hints, hkl] at hownB; have hI3 := IntsAt.of_row hownB)
                | (go_at_call 12; (try go_split_ands); (with_reducible refine (lgInts ‹LgK w w.heap.size w2.heap.size a b a2 n m c d c2 L win s _› (hI2.later BB) hI3 hpp hk7).mono ?_); rintro e w8 ⟨rfl, hK8, hb8⟩)
                | (go_at_call 9; (try go_split_ands); (with_reducible refine (lgWakes hwk ‹LgK w w.heap.size w2.heap.size a b a2 n m c d c2 L win s _›).mono ?_); rintro e w9 ⟨rfl, hK9, hb9⟩)
                | fail)
              all_goals (go_wp2; go_ret; exact ⟨rfl, hK9.2.2.2.2.2⟩)
end Go.Proofs.Ytkibnbcdmkogkaa
