/-
  Contract of split.All at every script in memory: its pieces, in memory of their own; no other condition.
-/
import Derived.Test.YtepbjjddpfejnaaV
namespace Go.Proofs.Ytepbjjddpfejnaa
open Go.ChangeShapes Go.WideShapes Go.ChangeAt Go.RowKit
set_option linter.unusedVariables false
set_option linter.unusedSimpArgs false
attribute [local go_sem] Oper.semAt_some
theorem BytesAt.kept {blk off : Nat} {zs : List Int} {W W' : World} {row : Option Nat} (h : BytesAt blk off zs W) (hg : W.grownBy W' row) (hrow : ∀ r, row = some r → ∃ o : Obj, W.heap[r]? = some o ∧ o.isCells = false) : BytesAt blk off zs W' :=
  ⟨Nat.lt_of_lt_of_le h.1 hg.size, fun i hi => cell_kept (h.2.1 i hi) hg hrow, h.2.2⟩
theorem ScriptAt.later {B blk off cap : Nat} {zs : List Int} {W W' : World} (h : ScriptAt B blk off cap zs W) (hb : Below W.heap.size W W') : ScriptAt B blk off cap zs W' := ⟨(hb.block _ h.1.lt).trans h.1, h.2.later hb⟩
/-- A box that is written is none of the script's. -/
theorem ScriptAt.far {B blk off cap D o : Nat} {zs : List Int} {W : World} {u : Value} (h : ScriptAt B blk off cap zs W) (h1 : B ≠ D) (h2 : blk ≠ D) : ScriptAt B blk off cap zs (W.setCell ⟨D, o, none⟩ u) :=
  ⟨boxed_far h.1 h1 o u, Nat.lt_of_lt_of_le h.2.1 (KeepsWalks.setCell W _ u).size, fun i hi => set_far (by intro q; cases q; exact h2 rfl) (h.2.2.1 i hi), h.2.2.2⟩
/-- What All has so far. -/
def AllSo (w : World) (blk off cap : Nat) (zs : List Int) (k : Nat) (v : Value) (L : List (Pc × Value)) (W : World) : Prop :=
  L.map (·.1) = pcsTo zs k ∧ Boxed W w.heap.size 24 v ∧ PcsL w.heap.size v L W ∧ ScriptAt (w.heap.size + 1) blk off cap zs W ∧ Below w.heap.size w W
/-- Between two rounds of All. -/
def AllIn (w : World) (blk off cap : Nat) (zs : List Int) (k : Nat) (W : World) : Prop := ∃ v L, AllSo w blk off cap zs k v L W
theorem no_cells {o : Obj} (h : o.isCells = false) (t : TypeId) : ∀ cs fz, o ≠ .cells cs t fz := by
  rintro cs fz rfl; cases h
theorem AllSo_own {w : World} {blk off cap : Nat} {zs : List Int} {B : Nat} (hB : w.heap.size ≤ B) {k : Nat} {v : Value} {L : List (Pc × Value)} {X Y : World} {row : Option Nat} (h : AllSo w blk off cap zs k v L X) (hg : X.grownBy Y row) (hrow : ∀ r, row = some r → B ≤ r ∧ ∃ o : Obj, X.heap[r]? = some o ∧ o.isCells = false) : AllSo w blk off cap zs k v L Y := by
  obtain ⟨hL, hv, ⟨hr, hs⟩, ⟨hb, hy⟩, hw⟩ := h
  have hrow' : ∀ r, row = some r → ∃ o : Obj, X.heap[r]? = some o ∧ o.isCells = false := fun r e => (hrow r e).2
  have hrow2 : ∀ (t : TypeId) r, row = some r → ∃ o : Obj, X.heap[r]? = some o ∧ ∀ cs fz, o ≠ .cells cs t fz := fun t r e => by
    obtain ⟨o, ho, hc⟩ := hrow' r e
    exact ⟨o, ho, no_cells hc t⟩
  exact ⟨hL, boxed_own w.heap.size 24 (fun _ : Unit => v) () X Y row hv hg hrow', ⟨row_kept hr hg (hrow2 28), hs.kept hg (hrow2 5)⟩,
    ⟨boxed_own (w.heap.size + 1) 22 (fun _ : Unit => Value.slice (some ⟨blk, off, none⟩) zs.length cap) () X Y row hb hg hrow', hy.kept hg hrow'⟩, ownFrom_below (Nat.le_refl _) hB k X Y row hw hg hrow⟩
theorem AllIn_own (w : World) (blk off cap : Nat) (zs : List Int) (B : Nat) (hB : w.heap.size ≤ B) : OwnFrom B (AllIn w blk off cap zs) := by
  rintro k X Y row ⟨v, L, h⟩ hg hrow
  exact ⟨v, L, AllSo_own hB h hg hrow⟩
/-- A piece lies in box p. -/
def PcBox (p : Nat) (k : Int) (s : Value) (c : Bool) (W : World) : Prop := W.heap[p]? = some (.cells #[.int .i64 k, s, .bool c] 28 (0, 0))
theorem PcBox.kept {p : Nat} {k : Int} {s : Value} {c : Bool} {X Y : World} {row : Option Nat} (hb : PcBox p k s c X) (hg : X.grownBy Y row) (hrow : ∀ r, row = some r → ∃ o : Obj, X.heap[r]? = some o ∧ o.isCells = false) : PcBox p k s c Y := by
  refine (hg.block p (Array.getElem?_eq_some_iff.1 hb).1 (fun e => ?_)).trans hb
  obtain ⟨o, ho, hc⟩ := hrow p e.symm
  rw [show X.heap[p]? = _ from hb] at ho; cases ho; cases hc
theorem PcBox.cell {p : Nat} {k : Int} {s : Value} {c : Bool} {W : World} (hb : PcBox p k s c W) : W.cell? ⟨p, 0, none⟩ = some (.int .i64 k) ∧ W.cell? ⟨p, 1, none⟩ = some s ∧ W.cell? ⟨p, 2, none⟩ = some (.bool c) := by
  refine ⟨?_, ?_, ?_⟩ <;> simp [World.cell?, show W.heap[p]? = _ from hb]
theorem PcBox.frozen {p : Nat} {k : Int} {s : Value} {c : Bool} {W : World} (hb : PcBox p k s c W) (j : Nat) : W.frozen? ⟨p, j, none⟩ = false := by
  simp [World.frozen?, show W.heap[p]? = _ from hb]
theorem PcBox.lt {p : Nat} {k : Int} {s : Value} {c : Bool} {W : World} (hb : PcBox p k s c W) : p < W.heap.size := (Array.getElem?_eq_some_iff.1 hb).1
theorem PcBox.later {p : Nat} {k : Int} {s : Value} {c : Bool} {W W' : World} (hb : PcBox p k s c W) (h : Below W.heap.size W W') : PcBox p k s c W' := (h.block p hb.lt).trans hb
/-- The cells of a piece's bytes. -/
theorem piece_cells {blk off cap k : Nat} {zs : List Int} {W : World} (h : BytesAt blk off zs W) (hcap : zs.length ≤ cap) (hk : k < zs.length) : ∀ j u, (cellsU (ck zs (k + 1) (hasAt zs k)))[j]? = some u → W.cell? ((leftA blk off cap k).add j) = some u := by
  intro j u hj
  have hle := hasAt_le zs k hk
  have hlt : j < (ck zs (k + 1) (hasAt zs k)).length := by
    have := (List.getElem?_eq_some_iff.1 hj).1
    simpa using this
  have hl : (ck zs (k + 1) (hasAt zs k)).length = hasAt zs k := pc_len zs k hk
  have hc : cap ≠ k + 1 := by omega
  have he : (leftA blk off cap k).add j = ⟨blk, off + (k + 1 + j), none⟩ := by
    unfold leftA
    rw [if_neg hc]
    unfold Addr.add
    split
    · simp_all
    · simp [Nat.add_assoc]
  rw [he, h.2.1 (k + 1 + j) (by omega), ← hj]
  have hlt2 : k + 1 + j < zs.length := by omega
  have hlt3 : j < hasAt zs k := by omega
  simp [cellsU, ck, hlt2, hlt3]
theorem Try.info28 : (Try.prog.info? 28).map (fun i => (i.zero, i.size, i.bytes)) = some (some (.agg #[.int .i64 0, .slice none 0 0, .bool false]), 3, 40) := by kernel_rfl
theorem PcBox.set1 {p : Nat} {k : Int} {s : Value} {c : Bool} {W : World} (hb : PcBox p k s c W) (s' : Value) : PcBox p k s' c (W.setCell ⟨p, 1, none⟩ s') := by
  obtain ⟨hlt, hk⟩ := Array.getElem?_eq_some_iff.1 hb
  show (W.heap.modify p _)[p]? = _
  rw [Array.getElem?_eq_getElem (by rw [Array.size_modify]; exact hlt), Array.getElem_modify_self, hk]
  rfl
theorem cell3_new (w : World) (a b c : Value) (t : TypeId) : ∀ j u, [a, b, c][j]? = some u → (w.alloc (.cells #[a, b, c] t)).cell? ((⟨w.heap.size, 0, none⟩ : Addr).add j) = some u := by
  intro j u hj
  match j, hj with
  | 0, hj => simp at hj; subst hj; simp [Addr.add, go_sem]
  | 1, hj => simp at hj; subst hj; simp [Addr.add, go_sem]
  | 2, hj => simp at hj; subst hj; simp [Addr.add, go_sem]
theorem own_is {W : World} {base : Nat} {e : TypeId} {size n : Nat} {v : Value} {xs : List Value} (h : W.ownsRow base e size v n xs) (t : TypeId) (ht : t ≠ e) : ∀ r, v.ownBlock = some r → ∃ o : Obj, W.heap[r]? = some o ∧ ∀ cs fz, o ≠ .cells cs t fz := by
  intro r hr
  rcases h.2 with ⟨rfl, _⟩ | ⟨g, cap, cur, rfl, _, hgb, _⟩
  · simp [Value.ownBlock] at hr
  · obtain rfl : g = r := by simpa [Value.ownBlock] using hr
    exact ⟨_, hgb, by rintro cs fz ⟨⟩; exact ht rfl⟩
theorem box_is {W : World} {B : Nat} {t : TypeId} {v : Value} (h : Boxed W B t v) (u : TypeId) (ht : u ≠ t) : ∀ r, some B = some r → ∃ o : Obj, W.heap[r]? = some o ∧ ∀ cs fz, o ≠ .cells cs u fz := by
  intro r e
  cases e
  exact ⟨_, h, by rintro cs fz ⟨⟩; exact ht rfl⟩
/-- What the walk of a round's body needs: a piece in box p, that is no other's. -/
def AllAx (w : World) (blk off cap : Nat) (zs : List Int) (k : Nat) (p : Nat) (W : World) : Prop :=
  ∃ v L, AllSo w blk off cap zs k v L W ∧ w.heap.size + 1 < p ∧ blk < w.heap.size ∧ v.ownBlock ≠ some p ∧
    PcBox p (placeOf zs k) (.slice (some (leftA blk off cap (placeOf zs k))) (hasAt zs (placeOf zs k)) (cap - (placeOf zs k + 1))) (cutAt zs (placeOf zs k)) W
theorem AllSo.alloc {w : World} {blk off cap : Nat} {zs : List Int} {k : Nat} {v : Value} {L : List (Pc × Value)} {W : World} (h : AllSo w blk off cap zs k v L W) (o : Obj) : AllSo w blk off cap zs k v L (W.alloc o) :=
  AllSo_own (B := w.heap.size) (Nat.le_refl _) h (World.grownBy_alloc W o none) (fun r e => by cases e)
theorem AllAx.made {w : World} {blk off cap : Nat} {zs : List Int} {k : Nat} {W : World} (h : AllIn w blk off cap zs k W) (hb : blk < w.heap.size) : AllAx w blk off cap zs k W.heap.size
    (W.alloc (.cells #[.int .i64 (placeOf zs k), .slice (some (leftA blk off cap (placeOf zs k))) (hasAt zs (placeOf zs k)) (cap - (placeOf zs k + 1)), .bool (cutAt zs (placeOf zs k))] 28)) := by
  obtain ⟨v, L, h⟩ := h
  have hl := h.2.2.2.1.1.lt
  refine ⟨v, L, h.alloc _, hl, hb, fun e => ?_, World.alloc_heap_new W _⟩
  have := (h.2.2.1.1.lt _ e).2
  omega
set_option maxRecDepth 100000 in
set_option maxHeartbeats 2000000 in
theorem all_some (blk off cap : Nat) (zs : List Int) (w : World) (hcap : zs.length ≤ cap) (hlen : zs.length ≤ 2000) (h : BytesAt blk off zs w) :
    Calls Try.prog 7 #[.slice (some ⟨blk, off, none⟩) zs.length cap] w fun e w' => ∃ v, e = .returned v ∧ PcsAt w.heap.size v (pcsOf zs) w' ∧ Below w.heap.size w w' := by
  refine (callsIn_wide (n := 9)).1 ?_
  refine callsIn_of_wp_marks Try.func7 rfl trivial ?_ rfl
  rw [wpIn_wide]
  simp only [Try.ntmps7, List.size_toArray, List.length_cons, List.length_nil, Nat.reduceAdd, Nat.reduceSub, Array.replicate_succ, Array.replicate_zero, List.push_toArray, List.append_toArray, List.nil_append, List.cons_append]
  have bC := Boxed.new w 24 (.slice none 0 0)
  go_wp2_with ((with_reducible refine (pieces_any _ _ _ _ rfl _).mono ?_); rintro e w' ⟨rfl, rfl⟩)
  have bN := Boxed.new (w.alloc (.cells #[.slice none 0 0] 24)) 22 (.slice (some ⟨blk, off, none⟩) zs.length cap)
  rw [World.size_alloc] at bN
  have hB0 : Below w.heap.size w ((w.alloc (.cells #[.slice none 0 0] 24)).alloc (.cells #[.slice (some ⟨blk, off, none⟩) zs.length cap] 22)) := ((Below.refl _ w).alloc (Nat.le_refl _) _).alloc (by simp) _
  have hS0 : ScriptAt (w.heap.size + 1) blk off cap zs ((w.alloc (.cells #[.slice none 0 0] 24)).alloc (.cells #[.slice (some ⟨blk, off, none⟩) zs.length cap] 22)) := ⟨bN, h.later hB0⟩
  have hblk := h.1
  refine (wpIn_wide (n := 9)).1 ?_
  refine wpIn_rangeFunc_rowK rfl (by omega) (gf := 27) (lb := #[.pointer (some ⟨w.heap.size + 1, 0, none⟩)]) rfl trivial (enters_of Try.func27 (by kernel_rfl) rfl)
    (pieces_tells 8 (w.heap.size + 1) blk off cap (by omega) zs hcap (by omega) _ hS0) (Below.refl _ _) (fun k hk => by rw [pieceRow_len] at hk; rw [pieceRow_at _ _ _ _ _ hk]; rfl)
    (AllIn w blk off cap zs) (fun _ _ => False) (AllIn_own w blk off cap zs _ (by simp; omega)) (fun _ _ _ _ hs _ _ => hs) (fun k W h => h.choose_spec.choose_spec.2.2.2.1) (fun _ _ h => h)
    ⟨.slice none 0 0, [], rfl, bC.alloc _, ⟨World.ownsRow_nil _ _ _ _, fun x hx => by cases hx⟩, hS0, hB0⟩
    (fun k a' W => ∃ p, AllAx w blk off cap zs k p W ∧
      a' = { tmps := #[.slice (some ⟨blk, off, none⟩) zs.length cap, undef, .slice none 0 0, .pointer (some ⟨w.heap.size, 0, none⟩), .pointer (some ⟨p, 0, none⟩), .slice (some ⟨blk, off, none⟩) zs.length cap, .func (.func 27) #[] #[.pointer (some ⟨w.heap.size + 1, 0, none⟩)], pieceV blk off cap zs (placeOf zs k), undef, undef, undef, undef, undef, undef, undef, undef, undef], defers := [] })
    ?ax ?assign ?body ?done ?stop
  case ax =>
    rintro k a' ⟨⟩ X Y row ⟨p, ⟨v, L, hs, h1, h2, h3, h4⟩, rfl⟩ hg hrow
    exact ⟨p, ⟨v, L, AllSo_own (by simp; omega) hs hg hrow, h1, h2, h3, h4.kept hg (fun r e => (hrow r e).2)⟩, rfl⟩
  case assign =>
    intro l k W K hk hI hK
    rw [pieceRow_len] at hk
    rw [pieceRow_at _ _ _ _ _ hk]
    have hax := AllAx.made hI hblk
    unfold pieceV
    gi_wp2
    exact hK _ _ ((KeepsOthers.alloc W _).from _) (by obtain ⟨v, L, hs, _⟩ := hax; exact ⟨v, L, hs⟩) ⟨_, hax, rfl⟩
  case body =>
    rintro l k a' W hk - ⟨p, ⟨v, L, ⟨hL, hv, ⟨hr, hs⟩, hS, hB⟩, h1, h2, h3, h4⟩, rfl⟩
    rw [pieceRow_len] at hk
    have hkz := place_lt zs hk
    have hcl := piece_cells hS.2 hcap hkz
    have hpl := pc_len zs _ hkz
    have hkc : k ≤ 2000 := by have := cnt_le zs; omega
    have hLk : L.length = k := by have := congrArg List.length hL; rwa [List.length_map, pcsTo_len] at this
    subst hLk
    obtain ⟨hc0, hc1, hc2⟩ := h4.cell
    have hf1 := h4.frozen 1
    have hPS := Lib.hid (pcsTo_succ zs L.length)
    have hlen5 : (pcOf zs (placeOf zs L.length)).bytes.length ≤ 140737488351232 := by rw [hpl]; have := hasAt_le zs _ hkz; omega
    have hCL := Lib.hid (clone_any (leftA blk off cap (placeOf zs L.length)) (cap - (placeOf zs L.length + 1)) (pcOf zs (placeOf zs L.length)).bytes W hlen5 hcl)
    rw [hpl] at hCL
    clear hcl hk
    obtain ⟨i0, hi, hz0, hz1, hz2⟩ := info_parts Try.info28
    have hi := Lib.hid hi
    gi_wp2_with fail
    refine ⟨trivial, ((callsIn_wide (n := 6)).2 hCL.out).mono ?_⟩
    rintro e w6 ⟨g, c', rfl, hg, hb6⟩
    have hKF := keeps_of_below (B := ((w.alloc (.cells #[.slice none 0 0] 24)).alloc (.cells #[.slice (some ⟨blk, off, none⟩) zs.length cap] 22)).heap.size) hb6
    have hv6 : Boxed w6 w.heap.size 24 v := (hb6.block _ hv.lt).trans hv
    have hr6 := row_later hr hb6
    have hs6 := hs.later hb6
    have hS6 := hS.later hb6
    have h46 := h4.later hb6
    have hB6 := hB.trans (hb6.mono hB.size)
    have hg6 := row_base hg hB.size
    have hn5 : ∀ r, some p = some r → ∃ o : Obj, w6.heap[r]? = some o ∧ ∀ cs fz, o ≠ .cells cs 5 fz := fun r e => by
      cases e
      exact ⟨_, h46, by rintro cs fz ⟨⟩⟩
    clear hCL hg hc0 hc1 hc2 hf1 hv hr hs hS h4 hB hb6
    obtain ⟨hc0, hc1, hc2⟩ := h46.cell
    have hf1 := h46.frozen 1
    obtain ⟨w7, hw7⟩ : ∃ w7, w6.setCell ⟨p, 1, none⟩ (.slice (some ⟨g, 0, none⟩) (hasAt zs (placeOf zs L.length)) c') = w7 := ⟨_, rfl⟩
    have hG7 := grownBy_setCell_any w6 p 1 (.slice (some ⟨g, 0, none⟩) (hasAt zs (placeOf zs L.length)) c')
    have hv7 : Boxed w7 w.heap.size 24 v := by rw [← hw7]; exact boxed_far hv6 (by omega) _ _
    have hr7 : w7.ownsRow w.heap.size 28 3 v L.length (pcCells L) := by rw [← hw7]; exact hr6.kept hG7 (.inr h3)
    have hs7 : PcRows w.heap.size L w7 := by rw [← hw7]; exact hs6.kept hG7 hn5
    have hg7 : w7.ownsRow w.heap.size 5 1 (.slice (some ⟨g, 0, none⟩) (hasAt zs (placeOf zs L.length)) c') (hasAt zs (placeOf zs L.length)) (cellsU (pcOf zs (placeOf zs L.length)).bytes) := by rw [← hw7]; exact row_kept hg6 hG7 hn5
    have hS7 : ScriptAt (w.heap.size + 1) blk off cap zs w7 := by rw [← hw7]; exact hS6.far (by omega) (by omega)
    have h47 : PcBox p (placeOf zs L.length) (.slice (some ⟨g, 0, none⟩) (hasAt zs (placeOf zs L.length)) c') (cutAt zs (placeOf zs L.length)) w7 := by rw [← hw7]; exact h46.set1 _
    have hB7 : Below w.heap.size w w7 := by rw [← hw7]; exact hB6.setCell (by simp; omega) _
    have hK7 : KeepsFrom ((w.alloc (.cells #[.slice none 0 0] 24)).alloc (.cells #[.slice (some ⟨blk, off, none⟩) zs.length cap] 22)).heap.size W w7 := by rw [← hw7]; exact hKF.trans ((KeepsOthers.setCell _ _ _).from _)
    clear hc0 hc1 hc2 hv6 hr6 hs6 hS6 hB6 hg6 hKF
    obtain ⟨hc0, hc1, hc2⟩ : w7.cell? ⟨p, 0, none⟩ = some (.int .i64 (placeOf zs L.length)) ∧ w7.cell? ⟨p, 1, none⟩ = some (.slice (some ⟨g, 0, none⟩) (hasAt zs (placeOf zs L.length)) c') ∧ w7.cell? ⟨p, 2, none⟩ = some (.bool (cutAt zs (placeOf zs L.length))) := h47.cell
    have hcv := hv7.cell
    obtain ⟨hc0', hc1', hc2'⟩ := h46.cell
    clear h46 hG7 hn5
    gi_wp2_with (gi_at_builtin; refine wpListIn_append_own _ rfl _ _ 24 rfl w.heap.size 28 i0 (.agg #[.int .i64 0, .slice none 0 0, .bool false]) 3 40 Try.underlying24 hi.out hz0 hz1 hz2 rfl (by decide) _ _ _ rfl (hr7.alloc _) ⟨w7.heap.size, 0, none⟩ 1 1 [.int .i64 (placeOf zs L.length), .slice (some ⟨g, 0, none⟩) (hasAt zs (placeOf zs L.length)) c', .bool (cutAt zs (placeOf zs L.length))] rfl rfl (cell3_new _ _ _ _ _) (by simp [Value.oneCell']) (by unfold maxLen; omega) (by omega) (by have := hB7.size; simp; omega) ?_; intro v' w1 hown' hgrow _; obtain ⟨g', cap', rfl⟩ := ownsRow_succ hown'; obtain ⟨hv1, hv2, hr2, hk2, hb2⟩ := hv7.appended (by decide) hr7 hB7.size (Nat.le_refl _) hown' hgrow; have hcv1 := hv1.cell; have hfv1 := hv1.frozen)
    have hfar : ∀ (s : Value) (n : Nat) (xs : List Value), w7.ownsRow w.heap.size 5 1 s n xs → (w1.setCell ⟨w.heap.size, 0, none⟩ (.slice (some ⟨g', 0, none⟩) (L.length + 1) cap')).ownsRow w.heap.size 5 1 s n xs := fun s n xs hx =>
      row_kept (row_kept (hx.alloc _) hgrow (own_is (hr7.alloc _) 5 (by decide))) (grownBy_setCell' w1 w.heap.size _) (box_is hv1 5 (by decide))
    refine ⟨hK7.trans (hk2.from _), _, L ++ [(pcOf zs (placeOf zs L.length), .slice (some ⟨g, 0, none⟩) (hasAt zs (placeOf zs L.length)) c')], ?_, hv2, ⟨?_, ?_⟩, ⟨?_, ?_⟩, hB7.trans hb2⟩
    · rw [List.map_append, hL, hPS.out]; rfl
    · rw [← pcCells_snoc, List.length_append]; exact hr2
    · intro x hx
      rcases List.mem_append.1 hx with hx | hx
      · exact hfar _ _ _ (hs7 x hx)
      · obtain rfl := List.mem_singleton.1 hx
        rw [hpl]
        exact hfar _ _ _ hg7
    · exact boxed_far ((hS7.1.alloc _).kept hgrow (hS7.1.not_row (by decide) hr7)) (by omega) _ _
    · exact ⟨by have := hb2.size; have := hB7.size; omega, fun i hi => (hb2.cell (p := ⟨blk, off + i, none⟩) (by omega)).trans (hS7.2.2.1 i hi), hS7.2.2.2⟩
  case done =>
    rintro D W hD ⟨v, L, ⟨hL, hv, ⟨hr, hs⟩, hS, hB⟩⟩ hK
    rw [pieceRow_len] at hL
    have hc := hv.cell
    have hDw : w.heap.size ≤ D := by simp at hD; omega
    go_wp2
    refine ⟨by simp, .inl ⟨_, _, rfl, run_takeDeferred hK, ?_⟩⟩
    exact ⟨_, results_tmp rfl _ _ _, v, rfl, ⟨L, hL, ownsRow_putObj hr _ hK rfl, fun x hx => ownsRow_putObj (hs x hx) _ hK rfl⟩, hB.trans (belowK_b (w := w) (Nat.le_refl _) W D _ (.deferred none) hDw hK rfl rfl)⟩
  case stop =>
    rintro D c W _ h _
    exact h.elim
set_option maxRecDepth 100000 in
set_option maxHeartbeats 1000000 in
theorem pieces_none (n B cap : Nat) (a : Option Addr) (hn : 1 ≤ n) (w : World) :
    TellsRowK False Fence.wide n Try.prog 27 #[.pointer (some ⟨B, 0, none⟩)] (fun W => Boxed W B 22 (.slice a 0 cap)) [] w := by
  intro l J Jx W hW hK hDr hY h0
  clear hY hW
  refine callsIn_of_wp Try.func27 rfl trivial ?_ rfl
  simp only [Try.ntmps27, List.size_toArray, List.length_cons, List.length_nil, Nat.reduceAdd, Nat.reduceSub, Array.replicate_succ, Array.replicate_zero, List.push_toArray, List.append_toArray, List.nil_append, List.cons_append]
  gi_wp2
  gi_loopw [3] (fun t wr => t = .int .i64 0 ∧ J 0 wr) (fun t _ => 0 - (intOf t).toNat)
  case atStart => exact ⟨rfl, h0⟩
  case round =>
    clear h0
    obtain ⟨rfl, hJs⟩ := hrel
    have hc := (hK _ _ hJs).cell
    gi_wp2
    go_end0
    exact ⟨⟨_, rfl⟩, .inl hJs⟩
/-- The script s is zs. -/
def Scr (s : Value) (zs : List Int) (w : World) : Prop :=
  (s = .slice none 0 0 ∧ zs = []) ∨ (∃ x cap, s = .slice (some x) 0 cap ∧ zs = []) ∨ ∃ blk off cap, s = .slice (some ⟨blk, off, none⟩) zs.length cap ∧ zs.length ≤ cap ∧ BytesAt blk off zs w
theorem Scr.later {s : Value} {zs : List Int} {w w' : World} (h : Scr s zs w) (hb : Below w.heap.size w w') : Scr s zs w' := by
  rcases h with h | h | ⟨blk, off, cap, h1, h2, h3⟩
  · exact .inl h
  · exact .inr (.inl h)
  · exact .inr (.inr ⟨blk, off, cap, h1, h2, h3.later hb⟩)
theorem AllNil_own {a : Option Addr} {cap R1 R2 B : Nat} {w : World} (hB : w.heap.size ≤ B) : OwnFrom B (fun (_ : Nat) W => Boxed W R1 24 (.slice none 0 0) ∧ Boxed W R2 22 (.slice a 0 cap) ∧ Below w.heap.size w W) := by
  rintro k X Y row ⟨h1, h2, h3⟩ hg hrow
  have hrow' : ∀ r, row = some r → ∃ o : Obj, X.heap[r]? = some o ∧ o.isCells = false := fun r e => (hrow r e).2
  exact ⟨boxed_own R1 24 (fun _ : Unit => Value.slice none 0 0) () X Y row h1 hg hrow', boxed_own R2 22 (fun _ : Unit => Value.slice a 0 cap) () X Y row h2 hg hrow', ownFrom_below (Nat.le_refl _) hB k X Y row h3 hg hrow⟩
set_option maxRecDepth 100000 in
set_option maxHeartbeats 1000000 in
theorem all_none (a : Option Addr) (cap : Nat) (w : World) :
    Calls Try.prog 7 #[.slice a 0 cap] w fun e w' => e = .returned (.slice none 0 0) ∧ Below w.heap.size w w' := by
  refine (callsIn_wide (n := 9)).1 ?_
  refine callsIn_of_wp_marks Try.func7 rfl trivial ?_ rfl
  rw [wpIn_wide]
  simp only [Try.ntmps7, List.size_toArray, List.length_cons, List.length_nil, Nat.reduceAdd, Nat.reduceSub, Array.replicate_succ, Array.replicate_zero, List.push_toArray, List.append_toArray, List.nil_append, List.cons_append]
  have bC := Boxed.new w 24 (.slice none 0 0)
  go_wp2_with ((with_reducible refine (pieces_any _ _ _ _ rfl _).mono ?_); rintro e w' ⟨rfl, rfl⟩)
  have bN := Boxed.new (w.alloc (.cells #[.slice none 0 0] 24)) 22 (.slice a 0 cap)
  rw [World.size_alloc] at bN
  have hB0 : Below w.heap.size w ((w.alloc (.cells #[.slice none 0 0] 24)).alloc (.cells #[.slice a 0 cap] 22)) := ((Below.refl _ w).alloc (Nat.le_refl _) _).alloc (by simp) _
  refine (wpIn_wide (n := 9)).1 ?_
  refine wpIn_rangeFunc_rowK rfl (by omega) (gf := 27) (lb := #[.pointer (some ⟨w.heap.size + 1, 0, none⟩)]) rfl trivial (enters_of Try.func27 (by kernel_rfl) rfl)
    (pieces_none 8 (w.heap.size + 1) cap a (by omega) _) (Below.refl _ _) (fun k hk => by simp at hk)
    (fun _ W => Boxed W w.heap.size 24 (.slice none 0 0) ∧ Boxed W (w.heap.size + 1) 22 (.slice a 0 cap) ∧ Below w.heap.size w W) (fun _ _ => False) (AllNil_own (by simp; omega)) (fun _ _ _ _ hs _ _ => hs) (fun k W h => h.2.1) (fun _ _ h => h)
    ⟨bC.alloc _, bN, hB0⟩
    (fun k a' W => False) ?ax ?assign ?body ?done ?stop
  case ax =>
    intro k a' _ X Y row h
    exact h.elim
  case assign =>
    intro l k W K hk
    simp at hk
  case body =>
    intro l k a' W hk
    simp at hk
  case done =>
    rintro D W hD ⟨hv, _, hB⟩ hK
    have hc := hv.cell
    have hDw : w.heap.size ≤ D := by simp at hD; omega
    go_wp2
    refine ⟨by simp, .inl ⟨_, _, rfl, run_takeDeferred hK, ?_⟩⟩
    exact ⟨_, results_tmp rfl _ _ _, rfl, hB.trans (belowK_b (w := w) (Nat.le_refl _) W D _ (.deferred none) hDw hK rfl rfl)⟩
  case stop =>
    rintro D c W _ h _
    exact h.elim
theorem all_any (s : Value) (zs : List Int) (w : World) (h : Scr s zs w) (hlen : zs.length ≤ 2000) :
    Calls Try.prog 7 #[s] w fun e w' => ∃ v, e = .returned v ∧ PcsAt w.heap.size v (pcsOf zs) w' ∧ Below w.heap.size w w' := by
  have hn : ∀ a cap, Calls Try.prog 7 #[.slice a 0 cap] w fun e w' => ∃ v, e = .returned v ∧ PcsAt w.heap.size v (pcsOf []) w' ∧ Below w.heap.size w w' := fun a cap => by
    refine (all_none a cap w).mono ?_
    rintro e w' ⟨rfl, hb⟩
    exact ⟨_, rfl, ⟨[], rfl, World.ownsRow_nil _ _ _ _, fun x hx => by cases hx⟩, hb⟩
  rcases h with ⟨rfl, rfl⟩ | ⟨x, cap, rfl, rfl⟩ | ⟨blk, off, cap, rfl, hcap, hb⟩
  · exact hn _ _
  · exact hn _ _
  · exact all_some blk off cap zs w hcap hlen hb
end Go.Proofs.Ytepbjjddpfejnaa
