/-
  Contract of lex.All at every text: its tokens, in memory of their own, or the error and the place.
-/
import Derived.Test.YtkedifhlkiffoaaDoorLI
namespace Go.Proofs.YtkedifhlkiffoaaDoor
open Go.ChangeShapes Go.WideShapes Go.ChangeAt Go.RowKit
set_option linter.unusedVariables false
set_option linter.unusedSimpArgs false
attribute [local go_sem] Oper.semAt_some
theorem row_kept {W W' : World} {base : Nat} {e : TypeId} {size n : Nat} {v : Value} {xs : List Value} {row : Option Nat} (h : W.ownsRow base e size v n xs) (hg : W.grownBy W' row) (hrow : ∀ r, row = some r → ∃ o : Obj, W.heap[r]? = some o ∧ ∀ cs fz, o ≠ .cells cs e fz) : W'.ownsRow base e size v n xs := by
  refine h.kept hg ?_
  rcases h.2 with ⟨rfl, _⟩ | ⟨g, cap, cur, rfl, _, hgb, _⟩
  · exact .inl rfl
  · refine .inr fun e' => ?_
    obtain ⟨o, ho, hc⟩ := hrow g (by simpa [Value.ownBlock] using e'.symm)
    rw [hgb] at ho; cases ho; exact hc _ _ rfl
theorem row_later {W W' : World} {base : Nat} {e : TypeId} {size n : Nat} {v : Value} {xs : List Value} (h : W.ownsRow base e size v n xs) (hb : Below W.heap.size W W') : W'.ownsRow base e size v n xs :=
  row_kept h (grown_of_below hb) (fun r e => by cases e)
theorem grownBy_setCell_any (W : World) (b o : Nat) (v : Value) : W.grownBy (W.setCell ⟨b, o, none⟩ v) (some b) :=
  ⟨rfl, rfl, rfl, (KeepsWalks.setCell W _ v).size, fun k _ hk => Below.heap_setCell _ _ _ k (fun e => hk (by rw [e]))⟩
theorem no_cells {o : Obj} (h : o.isCells = false) (t : TypeId) : ∀ cs fz, o ≠ .cells cs t fz := by
  rintro cs fz rfl; cases h
theorem cell3_new (w : World) (a b c : Value) (t : TypeId) : ∀ j u, [a, b, c][j]? = some u → (w.alloc (.cells #[a, b, c] t)).cell? ((⟨w.heap.size, 0, none⟩ : Addr).add j) = some u := by
  intro j u hj
  match j, hj with
  | 0, hj => simp at hj; subst hj; simp [Addr.add, go_sem]
  | 1, hj => simp at hj; subst hj; simp [Addr.add, go_sem]
  | 2, hj => simp at hj; subst hj; simp [Addr.add, go_sem]
theorem own_is {W : World} {base : Nat} {e : TypeId} {size n : Nat} {v : Value} {xs : List Value} (h : W.ownsRow base e size v n xs) (t : TypeId) (ht : t ≠ e) : ∀ r, v.ownBlock = some r → ∃ o : Obj, W.heap[r]? = some o ∧ ∀ cs fz, o ≠ .cells cs t fz := by
  intro r hr
  rcases h.2 with ⟨rfl, _⟩ | ⟨g, cap, cur, rfl, _, hgb, _⟩
  · simp [Value.ownBlock] at hr
  · obtain rfl : g = r := by simpa [Value.ownBlock] using hr
    exact ⟨_, hgb, by rintro cs fz ⟨⟩; exact ht rfl⟩
theorem box_is {W : World} {B : Nat} {t : TypeId} {v : Value} (h : Boxed W B t v) (u : TypeId) (ht : u ≠ t) : ∀ r, some B = some r → ∃ o : Obj, W.heap[r]? = some o ∧ ∀ cs fz, o ≠ .cells cs u fz := by
  intro r e
  cases e
  exact ⟨_, h, by rintro cs fz ⟨⟩; exact ht rfl⟩
theorem boxed_far {W : World} {B D : Nat} {t : TypeId} {v : Value} (h : Boxed W B t v) (hne : B ≠ D) (o : Nat) (u : Value) : Boxed (W.setCell ⟨D, o, none⟩ u) B t v := (Below.heap_setCell W ⟨D, o, none⟩ u B hne).trans h
theorem keeps_of_below {B : Nat} {W W' : World} (h : Below W.heap.size W W') : KeepsFrom B W W' :=
  ⟨h.size, fun k o _ hk _ => (h.block k (Array.getElem?_eq_some_iff.1 hk).1).trans hk⟩

theorem Tryd.info35 : (Tryd.prog.info? 35).map (fun i => (i.zero, i.size, i.bytes)) = some (some (.agg #[.int .u8 0, .int .i64 0, .int .i64 0]), 3, 24) := by kernel_rfl
/-- Tokens, as cells. -/
def tkCells (ts : List (Tk × Nat)) : List Value := ts.flatMap fun x => [.int .u8 x.1.k, .int .i64 x.1.n, .int .i64 x.2]
theorem tkCells_snoc (ts : List (Tk × Nat)) (x : Tk × Nat) : tkCells ts ++ [.int .u8 x.1.k, .int .i64 x.1.n, .int .i64 x.2] = tkCells (ts ++ [x]) := by simp [tkCells]
set_option maxRecDepth 100000 in
set_option maxHeartbeats 1000000 in
theorem all_long (s : ByteArray) (w : World) (hl : 2000 < s.size) :
    Calls Tryd.prog 38 #[.string s] w fun e w' => e = .returned (.tuple #[.slice none 0 0, .int .i64 2000, .int .i64 91]) ∧ Below w.heap.size w w' := by
  have hli : (2000 : Int) < (s.size : Int) := by omega
  refine (callsIn_wide (n := 3)).1 ?_
  refine callsIn_of_wp_marks Tryd.func38 rfl trivial ?_ rfl
  rw [wpIn_wide]
  simp only [Tryd.ntmps38, List.size_toArray, List.length_cons, List.length_nil, Nat.reduceAdd, Nat.reduceSub, Array.replicate_succ, Array.replicate_zero, List.push_toArray, List.append_toArray, List.nil_append, List.cons_append]
  go_wp2
  refine wp_scope_jumps 0 (fun a' w' => False) (fun _ _ => 0) rfl ?_ (fun _ _ h => h.elim)
  go_wp2
  rw [jump_ret]
  exact ⟨.tuple #[.slice none 0 0, .int .i64 2000, .int .i64 91], by simp [results, Tryd.results38, go_sem], rfl, ((Below.refl _ w).alloc (Nat.le_refl _) _).alloc (by simp) _⟩
/-- What All has behind k tokens. -/
def AllSo (w : World) (l : Bs) (k : Nat) (v : Value) (W : World) : Prop :=
  Boxed W w.heap.size 31 v ∧ Boxed W (w.heap.size + 1) 3 (.int .i64 0) ∧ W.ownsRow w.heap.size 35 3 v k (tkCells ((toks l).take k)) ∧ LexAt (w.heap.size + 2) l W ∧ Below w.heap.size w W ∧ (∀ x ∈ (toks l).take k, x.1.k ≠ 6)
def AllIn (w : World) (l : Bs) (k : Nat) (W : World) : Prop := ∃ v, AllSo w l k v W
/-- What All has where it jumps. -/
def AllJ (w : World) (l : Bs) (W : World) : Prop := ∃ (v : Value) (p k : Nat) (t : Tk), Boxed W w.heap.size 31 v ∧ Boxed W (w.heap.size + 1) 3 (.int .i64 p) ∧ Below w.heap.size w W ∧ (toks l)[k]? = some (t, p) ∧ t.k = 6
def AllOut (w : World) (l : Bs) (c : Code) (W : World) : Prop := c = .goto 0 ∧ AllJ w l W
theorem AllSo_own {w : World} {l : Bs} {B : Nat} (hB : w.heap.size ≤ B) {k : Nat} {v : Value} {X Y : World} {row : Option Nat} (h : AllSo w l k v X) (hg : X.grownBy Y row) (hrow : ∀ r, row = some r → B ≤ r ∧ ∃ o : Obj, X.heap[r]? = some o ∧ o.isCells = false) : AllSo w l k v Y := by
  obtain ⟨h1, h2, h3, ⟨h4, h5⟩, h6, h7⟩ := h
  have hrow' : ∀ r, row = some r → ∃ o : Obj, X.heap[r]? = some o ∧ o.isCells = false := fun r e => (hrow r e).2
  have hrow2 : ∀ (t : TypeId) r, row = some r → ∃ o : Obj, X.heap[r]? = some o ∧ ∀ cs fz, o ≠ .cells cs t fz := fun t r e => by
    obtain ⟨o, ho, hc⟩ := hrow' r e
    exact ⟨o, ho, no_cells hc t⟩
  exact ⟨boxed_own w.heap.size 31 (fun _ : Unit => v) () X Y row h1 hg hrow', boxed_own (w.heap.size + 1) 3 (fun _ : Unit => Value.int .i64 0) () X Y row h2 hg hrow', row_kept h3 hg (hrow2 35),
    ⟨boxed_own (w.heap.size + 2) 9 (fun _ : Unit => S l) () X Y row h4 hg hrow', fun i hi => cell_kept (h5 i hi) hg hrow'⟩, ownFrom_below (Nat.le_refl _) hB k X Y row h6 hg hrow, h7⟩
theorem AllIn_own (w : World) (l : Bs) (B : Nat) (hB : w.heap.size ≤ B) : OwnFrom B (AllIn w l) := by
  rintro k X Y row ⟨v, h⟩ hg hrow
  exact ⟨v, AllSo_own hB h hg hrow⟩
theorem AllOut_own (w : World) (l : Bs) (B : Nat) (hB : w.heap.size ≤ B) : OwnFrom B (AllOut w l) := by
  rintro c X Y row ⟨rfl, v, p, k, t, h1, h2, h3, h4⟩ hg hrow
  have hrow' : ∀ r, row = some r → ∃ o : Obj, X.heap[r]? = some o ∧ o.isCells = false := fun r e => (hrow r e).2
  exact ⟨rfl, v, p, k, t, boxed_own w.heap.size 31 (fun _ : Unit => v) () X Y row h1 hg hrow', boxed_own (w.heap.size + 1) 3 (fun _ : Unit => Value.int .i64 p) () X Y row h2 hg hrow', ownFrom_below (Nat.le_refl _) hB k X Y row h3 hg hrow, h4⟩
theorem TokBox.kept {p : Nat} {k n q : Int} {X Y : World} {row : Option Nat} (hb : TokBox p k n q X) (hg : X.grownBy Y row) (hrow : ∀ r, row = some r → ∃ o : Obj, X.heap[r]? = some o ∧ o.isCells = false) : TokBox p k n q Y := by
  refine (hg.block p (Array.getElem?_eq_some_iff.1 hb).1 (fun e => ?_)).trans hb
  obtain ⟨o, ho, hc⟩ := hrow p e.symm
  rw [show X.heap[p]? = _ from hb] at ho; cases ho; cases hc
theorem row_at (l : Bs) (k : Nat) (h : k < (tokRow l).length) : ∃ t p, (toks l)[k]? = some (t, p) ∧ (tokRow l)[k]?.getD #[] = #[tokV t p] ∧ (toks l).take (k + 1) = (toks l).take k ++ [(t, p)] := by
  have hk : k < (toks l).length := by simpa [tokRow] using h
  refine ⟨(toks l)[k].1, (toks l)[k].2, by simp [hk], by simp [tokRow, hk], ?_⟩
  rw [List.take_succ_eq_append_getElem hk]
/-- In a round: the token lies in box p, that is no other's. -/
def AllAx (w : World) (l : Bs) (k p : Nat) (W : World) : Prop := ∃ (v : Value) (t : Tk) (q : Nat), AllSo w l k v W ∧ w.heap.size + 2 < p ∧ v.ownBlock ≠ some p ∧ TokBox p t.k t.n (q : Nat) W ∧ (toks l)[k]? = some (t, q) ∧ (toks l).take (k + 1) = (toks l).take k ++ [(t, q)]
theorem ops_lt {w : World} (h : OpsAt w) : 3 < w.heap.size := World.block_lt_of_cell? w _ (h 0 (by omega))
theorem AllAx.made {w : World} {l : Bs} {k : Nat} {W : World} (h : AllIn w l k W) (t : Tk) (q : Nat) (h1 : (toks l)[k]? = some (t, q)) (h2 : (toks l).take (k + 1) = (toks l).take k ++ [(t, q)]) : AllAx w l k W.heap.size (W.alloc (.cells #[.int .u8 t.k, .int .i64 t.n, .int .i64 (q : Int)] 35)) := by
  obtain ⟨v, h⟩ := h
  have hl := h.2.2.2.1.1.lt
  refine ⟨v, t, q, AllSo_own (B := w.heap.size) (Nat.le_refl _) h (World.grownBy_alloc W _ none) (fun r e => by cases e), hl, fun e => ?_, TokBox.new W _ _ _, h1, h2⟩
  have := (h.2.2.1.lt _ e).2
  omega
theorem D_ne {W : World} {A B D : Nat} {v u : Value} {t s : TypeId} {o : Option (List Deferred)} (hv : Boxed W A t v) (ha : Boxed W B s u) (hK : W.heap[D]? = some (.deferred o)) : A ≠ D ∧ B ≠ D := by
  constructor
  · rintro rfl; rw [show W.heap[A]? = _ from hv] at hK; cases hK
  · rintro rfl; rw [show W.heap[B]? = _ from ha] at hK; cases hK
theorem all_leaves {w W2 : World} {D : Nat} {v : Value} {p e : Int} {R : Ending → World → Prop} {a : Act} (hv : Boxed W2 w.heap.size 31 v) (ha : Boxed W2 (w.heap.size + 1) 3 (.int .i64 p)) (hK : W2.heap[D]? = some (.deferred (some []))) (hD : w.heap.size ≤ D) (hB : Below w.heap.size w W2)
    (hR : ∀ W3, Below w.heap.size w W3 → True → (∀ {e : TypeId} {n sz : Nat} {x : Value} {cs : List Value}, W2.ownsRow w.heap.size e sz x n cs → W3.ownsRow w.heap.size e sz x n cs) → R (.returned (.tuple #[v, .int .i64 p, .int .i64 e])) W3)
    (h2 : a.tmps.getD 2 undef = .pointer (some ⟨w.heap.size, 0, none⟩) := by rfl) (h3 : a.tmps.getD 3 undef = .pointer (some ⟨w.heap.size + 1, 0, none⟩) := by rfl) (h4 : a.tmps.getD 4 undef = .int .i64 e := by rfl) (hd : a.defers = [{ target := .collected D, args := #[] }] := by rfl) :
    bodyPostM Fence.wide 9 Tryd.prog Tryd.f38 R .ret a W2 := by
  obtain ⟨tm, df⟩ := a
  simp only at h2 h3 h4 hd
  subst hd
  obtain ⟨d1, d2⟩ := D_ne hv ha hK
  have hv3 : Boxed (W2.putObj D (.deferred none)) w.heap.size 31 v := (World.putObj_heap_other d1).trans hv
  have ha3 : Boxed (W2.putObj D (.deferred none)) (w.heap.size + 1) 3 (.int .i64 p) := (World.putObj_heap_other d2).trans ha
  have c1 := hv3.cell
  have c2 := ha3.cell
  refine ⟨by simp, .inl ⟨_, _, rfl, run_takeDeferred hK, ?_⟩⟩
  refine ⟨.tuple #[v, .int .i64 p, .int .i64 e], ?_, hR _ (hB.trans (belowK_b (w := w) (Nat.le_refl _) W2 D _ (.deferred none) hD hK rfl rfl)) trivial (fun h => ownsRow_putObj h _ hK rfl)⟩
  simp at h2 h3 h4
  simp [results, Tryd.results38, go_sem, h2, h3, h4, c1, c2]
theorem toks_le (l : Bs) : (toks l).length ≤ l.length + 1 := toks_len _ _ _
set_option maxRecDepth 100000 in
set_option maxHeartbeats 4000000 in
theorem all_short (l : Bs) (w : World) (hl : l.length ≤ 2000) (ho : OpsAt w) :
    Calls Tryd.prog 38 #[S l] w fun e w' => ((∀ x ∈ toks l, x.1.k ≠ 6) ∧ (∃ v, e = .returned (.tuple #[v, .int .i64 0, .int .i64 0]) ∧ w'.ownsRow w.heap.size 35 3 v (toks l).length (tkCells (toks l))) ∧ Below w.heap.size w w') ∨
      ∃ (k : Nat) (t : Tk) (p : Nat), (toks l)[k]? = some (t, p) ∧ t.k = 6 ∧ e = .returned (.tuple #[.slice none 0 0, .int .i64 (p : Nat), .int .i64 70]) ∧ Below w.heap.size w w' := by
  have hsz : (⟨l.toArray⟩ : ByteArray).size = l.length := rfl
  have hli : ¬ (2000 : Int) < ((⟨l.toArray⟩ : ByteArray).size : Int) := by rw [hsz]; omega
  have hbl := toks_le l
  unfold S
  refine (callsIn_wide (n := 9)).1 ?_
  refine callsIn_of_wp_marks Tryd.func38 rfl trivial ?_ rfl
  rw [wpIn_wide]
  simp only [Tryd.ntmps38, List.size_toArray, List.length_cons, List.length_nil, Nat.reduceAdd, Nat.reduceSub, Array.replicate_succ, Array.replicate_zero, List.push_toArray, List.append_toArray, List.nil_append, List.cons_append]
  have bT := Boxed.new w 31 (.slice none 0 0)
  have bA := Boxed.new (w.alloc (.cells #[.slice none 0 0] 31)) 3 (.int .i64 0)
  have bS := Boxed.new ((w.alloc (.cells #[.slice none 0 0] 31)).alloc (.cells #[.int .i64 0] 3)) 9 (S l)
  simp only [World.size_alloc] at bA bS
  have hB0 : Below w.heap.size w (((w.alloc (.cells #[.slice none 0 0] 31)).alloc (.cells #[.int .i64 0] 3)).alloc (.cells #[S l] 9)) := (((Below.refl _ w).alloc (Nat.le_refl _) _).alloc (by simp) _).alloc (by simp; omega) _
  have hI0 : AllIn w l 0 (((w.alloc (.cells #[.slice none 0 0] 31)).alloc (.cells #[.int .i64 0] 3)).alloc (.cells #[S l] 9)) :=
    ⟨.slice none 0 0, (bT.alloc _).alloc _, bA.alloc _, World.ownsRow_nil _ _ _ _, ⟨bS, ho.later hB0⟩, hB0, fun x hx => by simp at hx⟩
  have hlt0 := ops_lt ho
  have hs0 : (((w.alloc (.cells #[.slice none 0 0] 31)).alloc (.cells #[.int .i64 0] 3)).alloc (.cells #[S l] 9)).heap.size = w.heap.size + 3 := by simp
  clear bT bA bS
  go_wp2
  refine wp_scope_jumps 0 (fun a' W => AllJ w l W ∧ ∃ (D : Nat) (u0 u1 u4 u5 u6 u7 u8 u9 u10 u11 u12 u13 u14 u15 u16 u17 u18 u19 u20 u21 u22 : Value), a' = { tmps := #[u0, u1, .pointer (some ⟨w.heap.size, 0, none⟩), .pointer (some ⟨w.heap.size + 1, 0, none⟩), u4, u5, u6, u7, u8, u9, u10, u11, u12, u13, u14, u15, u16, u17, u18, u19, u20, u21, u22], defers := [{ target := .collected D, args := #[] }] } ∧ W.heap[D]? = some (.deferred (some [])) ∧ w.heap.size ≤ D) (fun _ _ => 0) rfl ?_ ?_
  · go_wp2_with ((with_reducible refine (tokensOf_any _ _).mono ?_); rintro e w' ⟨rfl, rfl⟩)
    refine (wpIn_wide (n := 9)).1 ?_
    refine wpIn_rangeFunc_rowB rfl (by omega) (gf := 87) (lb := #[.pointer (some ⟨w.heap.size + 2, 0, none⟩)]) rfl trivial (enters_of Tryd.func87 (by kernel_rfl) rfl)
      (tokens_tells 8 (w.heap.size + 2) (by omega) l (by omega) _) (Below.refl _ _) (fun k hk => by obtain ⟨t, p, _, h, _⟩ := row_at l k hk; rw [h]; rfl)
      (AllIn w l) (AllOut w l) (AllIn_own w l _ (by rw [hs0]; omega)) (AllOut_own w l _ (by rw [hs0]; omega)) (fun k W h => h.choose_spec.2.2.2.1) (fun _ _ _ => trivial)
      hI0
      (fun k a' W => ∃ p, AllAx w l k p W ∧ a'.defers = [] ∧ ∃ u8 u11, a' = { tmps := #[.string ⟨l.toArray⟩, undef, .pointer (some ⟨w.heap.size, 0, none⟩), .pointer (some ⟨w.heap.size + 1, 0, none⟩), .int .i64 0, .pointer (some ⟨p, 0, none⟩), .string ⟨l.toArray⟩, .int .i64 (l.length : Nat), u8, .string ⟨l.toArray⟩, .func (.func 87) #[] #[.pointer (some ⟨w.heap.size + 2, 0, none⟩)], u11, undef, undef, undef, undef, undef, undef, undef, undef, undef, undef, undef], defers := [] })
      ?ax ?assign ?body ?done ?stop
    case ax =>
      rintro k a' ⟨⟩ X Y row ⟨p, ⟨v, t, q, hs, h1, h2, h3, h4⟩, hd, hu⟩ hg hrow
      exact ⟨p, ⟨v, t, q, AllSo_own (by rw [hs0]; omega) hs hg hrow, h1, h2, h3.kept hg (fun r e => (hrow r e).2), h4⟩, hd, hu⟩
    case assign =>
      intro l' k W K hk hI hK
      obtain ⟨t, p, h1, h2, h3⟩ := row_at l k hk
      rw [h2]
      have hax := AllAx.made hI t p h1 h3
      unfold tokV
      clear h2
      gi_wp2
      refine hK _ _ ((KeepsOthers.alloc W _).from _) ?_ ⟨_, hax, rfl, _, _, rfl⟩
      obtain ⟨v, t, q, hs, _⟩ := hax
      exact ⟨v, hs⟩
    case body =>
      rintro l' k a' W hk - ⟨p, ⟨v, t, q, ⟨hv, ha, hr, hS, hB, hG⟩, h1, h2, h3, h4, h5⟩, -, u8, u11, rfl⟩
      obtain ⟨c0, c1, c2⟩ := h3.cells
      have ca := ha.cell
      have fa := ha.frozen
      have hkt : k < (toks l).length := by simpa [tokRow] using hk
      have hkl : k ≤ 2002 := by omega
      have H5 := Lib.hid h5
      have H4 := Lib.hid h4
      have HG := Lib.hid hG
      clear h5 h4 hG
      by_cases h6 : t.k = 6
      · have h6b : (t.k == 6) = true := by simpa using h6
        gi_wp2
        refine wpIn_goto ?_
        exact ⟨(KeepsOthers.setCell _ _ _).from _, rfl, v, q, k, t, boxed_far hv (by omega) _ _, ha.set _, hB.setCell (by simp) _, H4.out, h6⟩
      · have h6b : (t.k == 6) = false := by simpa using h6
        have cv := hv.cell
        obtain ⟨i0, hi, hz0, hz1, hz2⟩ := info_parts Tryd.info35
        have hi := Lib.hid hi
        gi_wp2_with (gi_at_builtin; refine wpListIn_append_own _ rfl _ _ 31 rfl w.heap.size 35 i0 (.agg #[.int .u8 0, .int .i64 0, .int .i64 0]) 3 24 Tryd.underlying31 hi.out hz0 hz1 hz2 rfl (by decide) _ _ _ rfl (hr.alloc _) ⟨W.heap.size, 0, none⟩ 1 1 [.int .u8 t.k, .int .i64 t.n, .int .i64 (q : Int)] rfl rfl (cell3_new _ _ _ _ _) (by simp [Value.oneCell']) (by unfold maxLen; omega) (by omega) (by have := hB.size; simp; omega) ?_; intro v' w1 hown' hgrow _; obtain ⟨g', cap', rfl⟩ := ownsRow_succ hown'; obtain ⟨hv1, hv2, hr2, hk2, hb2⟩ := hv.appended (by decide) hr hB.size (Nat.le_refl _) hown' hgrow; have hcv1 := hv1.cell; have hfv1 := hv1.frozen)
        have hS5 := hS.2
        refine ⟨hk2.from _, _, hv2, ?_, ?_, ⟨?_, ?_⟩, hB.trans hb2, ?_⟩
        · exact boxed_far ((ha.alloc _).kept hgrow (ha.not_row (by decide) hr)) (by omega) _ _
        · rw [H5.out, ← tkCells_snoc]; exact hr2
        · exact boxed_far ((hS.1.alloc _).kept hgrow (hS.1.not_row (by decide) hr)) (by omega) _ _
        · exact fun i hi => (hb2.cell (p := ⟨3, i, none⟩) hlt0).trans (hS.2 i hi)
        · intro x hx
          rw [H5.out] at hx
          rcases List.mem_append.1 hx with hx | hx
          · exact HG.out x hx
          · obtain rfl := List.mem_singleton.1 hx
            exact h6
    case done =>
      rintro D W hD ⟨v, hv, ha, hr, hS, hB, hG⟩ hK
      have hlen : (tokRow l).length = (toks l).length := by simp [tokRow]
      rw [hlen] at hr hG
      rw [List.take_length] at hr hG
      have hDw : w.heap.size ≤ D := by rw [hs0] at hD; omega
      have hpos : 0 < (toks l).length := by unfold toks; simp [toksF]
      obtain ⟨m, hm⟩ : ∃ m, (toks l).length = m + 1 := ⟨(toks l).length - 1, by omega⟩
      have hr' := hr
      rw [hm] at hr'
      obtain ⟨g, cap, rfl⟩ := ownsRow_succ hr'
      have hM := Lib.hid hm
      clear hr'
      clear hm hpos
      have hc := hv.cell
      have fc := hv.frozen
      have ca := ha.cell
      have fa := ha.frozen
      clear hbl hli hl
      obtain ⟨d1, d2⟩ := D_ne hv ha hK
      have ha1 : Boxed (W.setCell ⟨w.heap.size, 0, none⟩ (.slice (some ⟨g, 0, none⟩) (m + 1) cap)) (w.heap.size + 1) 3 (.int .i64 0) := boxed_far ha (by omega) _ _
      have ca1 := ha1.cell
      have fa1 := ha1.frozen
      have hv2 : Boxed ((W.setCell ⟨w.heap.size, 0, none⟩ (.slice (some ⟨g, 0, none⟩) (m + 1) cap)).setCell ⟨w.heap.size + 1, 0, none⟩ (.int .i64 0)) w.heap.size 31 (.slice (some ⟨g, 0, none⟩) (m + 1) cap) := boxed_far (hv.set _) (by omega) _ _
      have ha2 := ha1.set (.int .i64 0)
      have hK2 : ((W.setCell ⟨w.heap.size, 0, none⟩ (.slice (some ⟨g, 0, none⟩) (m + 1) cap)).setCell ⟨w.heap.size + 1, 0, none⟩ (.int .i64 0)).heap[D]? = some (.deferred (some [])) := (Below.heap_setCell _ ⟨w.heap.size + 1, 0, none⟩ _ D (Ne.symm d2)).trans ((Below.heap_setCell _ ⟨w.heap.size, 0, none⟩ _ D (Ne.symm d1)).trans hK)
      have hB2 := (hB.setCell (p := ⟨w.heap.size, 0, none⟩) (by simp) (.slice (some ⟨g, 0, none⟩) (m + 1) cap)).setCell (p := ⟨w.heap.size + 1, 0, none⟩) (by simp) (.int .i64 0)
      have hr2 : ((W.setCell ⟨w.heap.size, 0, none⟩ (.slice (some ⟨g, 0, none⟩) (m + 1) cap)).setCell ⟨w.heap.size + 1, 0, none⟩ (.int .i64 0)).ownsRow w.heap.size 35 3 (.slice (some ⟨g, 0, none⟩) (m + 1) cap) (toks l).length (tkCells (toks l)) :=
        row_kept (row_kept hr (grownBy_setCell_any W _ _ _) (box_is hv 35 (by decide))) (grownBy_setCell_any _ _ _ _) (box_is ha1 35 (by decide))
      go_wp2
      rw [jump_ret]
      refine all_leaves hv2 ha2 hK2 hDw hB2 ?_
      intro W3 hb3 _ hrow
      exact .inl ⟨hG, ⟨_, rfl, hrow hr2⟩, hb3⟩
    case stop =>
      rintro D c W hD ⟨rfl, hJ⟩ hK
      refine wpIn_goto ?_
      have hDw : w.heap.size ≤ D := by rw [hs0] at hD; omega
      exact ⟨rfl, hJ, D, _, _, _, _, _, _, _, _, _, _, _, _, _, _, _, _, _, _, _, _, _, rfl, hK, hDw⟩
  · rintro a' W ⟨⟨v, p, k, t, hv, ha, hB, h4, h6⟩, D, u0, u1, u4, u5, u6, u7, u8, u9, u10, u11, u12, u13, u14, u15, u16, u17, u18, u19, u20, u21, u22, rfl, hK, hD⟩
    have hc := hv.cell
    have fc := hv.frozen
    have ca := ha.cell
    have fa := ha.frozen
    have ha1 : Boxed (W.setCell ⟨w.heap.size, 0, none⟩ (.slice none 0 0)) (w.heap.size + 1) 3 (.int .i64 p) := boxed_far ha (by omega) _ _
    have ca1 := ha1.cell
    have fa1 := ha1.frozen
    obtain ⟨d1, d2⟩ := D_ne hv ha hK
    have hv2 : Boxed ((W.setCell ⟨w.heap.size, 0, none⟩ (.slice none 0 0)).setCell ⟨w.heap.size + 1, 0, none⟩ (.int .i64 p)) w.heap.size 31 (.slice none 0 0) := boxed_far (hv.set _) (by omega) _ _
    have ha2 := ha1.set (.int .i64 p)
    have hK2 : ((W.setCell ⟨w.heap.size, 0, none⟩ (.slice none 0 0)).setCell ⟨w.heap.size + 1, 0, none⟩ (.int .i64 p)).heap[D]? = some (.deferred (some [])) := (Below.heap_setCell _ ⟨w.heap.size + 1, 0, none⟩ _ D (Ne.symm d2)).trans ((Below.heap_setCell _ ⟨w.heap.size, 0, none⟩ _ D (Ne.symm d1)).trans hK)
    have hB2 := (hB.setCell (p := ⟨w.heap.size, 0, none⟩) (by simp) (.slice none 0 0)).setCell (p := ⟨w.heap.size + 1, 0, none⟩) (by simp) (.int .i64 p)
    go_wp2
    go_region
    go_wp2
    rw [jump_ret]
    refine all_leaves hv2 ha2 hK2 hD ⟨hB2.os, hB2.tape, hB2.output, hB2.size, hB2.block⟩ ?_
    intro W3 hb3 _ _
    exact .inr ⟨k, t, p, h4, h6, rfl, hb3⟩
end Go.Proofs.YtkedifhlkiffoaaDoor
