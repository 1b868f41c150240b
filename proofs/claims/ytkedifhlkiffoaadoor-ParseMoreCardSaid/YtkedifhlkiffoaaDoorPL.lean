/-
  Contract of the reader's pattern.
-/
import Derived.Test.YtkedifhlkiffoaaDoorPJ
import Derived.Deep.AppendLies
import Derived.Deep.RegionLaw
namespace Go.Proofs.YtkedifhlkiffoaaDoor
open Go.ChangeShapes Go.WideShapes Go.ChangeAt Go.RowKit
open Tree (Tm Cp Sp)
set_option linter.unusedVariables false
set_option linter.unusedSimpArgs false
attribute [local go_sem] Oper.semAt_some
theorem times_ge {ts : List (Tk × Nat)} {k : Nat} {x : (Int × Int) × Nat} (h : timesP ts k = .ok x) : k ≤ x.2 := by
  unfold timesP at h
  split at h
  · unfold spanP at h
    cases h1 : oneP ts 1 (k + 1) with
    | error j => rw [h1] at h; cases h
    | ok y1 =>
    simp only [h1] at h
    have g1 := one_gt h1
    cases h2 : mustP ts 5 44 y1.2 with
    | error j => rw [h2] at h; cases h
    | ok y2 =>
    simp only [h2] at h
    have g2 := must_gt h2
    cases h3 : oneP ts 1 y2.2 with
    | error j => rw [h3] at h; cases h
    | ok y3 =>
    simp only [h3] at h
    have g3 := one_gt h3
    cases h4 : mustP ts 5 125 y3.2 with
    | error j => rw [h4] at h; cases h
    | ok y4 =>
    simp only [h4] at h
    have g4 := must_gt h4
    cases h
    simp only
    omega
  · cases h; simp
theorem cmpsF_gt {ts : List (Tk × Nat)} : ∀ (f k : Nat) (x : List Cp × Nat), cmpsF ts f k = .ok x → k < x.2 := by
  intro f
  induction f with
  | zero => intro k x h; cases h
  | succ f ih =>
    intro k x h
    unfold cmpsF at h
    cases h1 : cmpP ts k with
    | error j => rw [h1] at h; cases h
    | ok y1 =>
    simp only [h1] at h
    have g1 := cmp_gt h1
    split at h
    · cases h2 : cmpsF ts f (y1.2 + 1) with
      | error j => rw [h2] at h; cases h
      | ok y2 =>
      simp only [h2] at h
      have g2 := ih _ _ h2
      cases h
      simp only
      omega
    · cases h2 : mustP ts 5 93 y1.2 with
      | error j => rw [h2] at h; cases h
      | ok y2 =>
      simp only [h2] at h
      have g2 := must_gt h2
      cases h
      simp only
      omega
theorem list_ge {ts : List (Tk × Nat)} {k : Nat} {x : List Cp × Nat} (h : listP ts k = .ok x) : k ≤ x.2 := by
  unfold listP at h
  split at h
  · have := cmpsF_gt _ _ _ h; omega
  · cases h; simp
theorem step_gt {ts : List (Tk × Nat)} {i : Int} {strict : Bool} {k : Nat} {x : Sp × Nat} (h : stepP ts i strict k = .ok x) : k < x.2 := by
  unfold stepP at h
  have g0 : k ≤ mayK ts 33 k := by unfold mayK; split <;> omega
  cases h1 : oneP ts 1 (mayK ts 33 k) with
  | error j => rw [h1] at h; cases h
  | ok y1 =>
  simp only [h1] at h
  have g1 := one_gt h1
  cases h2 : mustP ts 2 i y1.2 with
  | error j => rw [h2] at h; cases h
  | ok y2 =>
  simp only [h2] at h
  have g2 := must_gt h2
  cases h3 : timesP ts y2.2 with
  | error j => rw [h3] at h; cases h
  | ok y3 =>
  simp only [h3] at h
  have g3 := times_ge h3
  cases h4 : listP ts y3.2 with
  | error j => rw [h4] at h; cases h
  | ok y4 =>
  simp only [h4] at h
  have g4 := list_ge h4
  cases h
  simp only
  omega
/-- What ends a pattern. -/
def endP (ts : List (Tk × Nat)) (k : Nat) : Except Nat Int :=
  match mustP ts 3 0 k with
  | .error j => .error j
  | .ok (_, k) => match oneP ts 1 k with
    | .error j => .error j
    | .ok (win, k) => match mustP ts 0 0 k with
      | .error j => .error j
      | .ok _ => .ok win
/-- A pattern from its step of the number i on, at most f of them. -/
def patF (ts : List (Tk × Nat)) : Nat → Nat → Bool → Nat → Except Nat (List Sp × Int)
  | 0, _, _, k => .error k
  | f + 1, i, strict, k => match stepP ts i strict k with
    | .error j => .error j
    | .ok (s, k1) =>
      if mayP ts 5 44 k1 || mayP ts 5 59 k1 then match patF ts f (i + 1) (mayP ts 5 44 k1) (k1 + 1) with
        | .error j => .error j
        | .ok (l, win) => .ok (s :: l, win)
      else match endP ts k1 with
        | .error j => .error j
        | .ok win => .ok ([s], win)
def patP (ts : List (Tk × Nat)) : Except Nat (List Sp × Int) := patF ts ts.length 0 false 0
def joinP (l : List Sp) : Except Nat (List Sp × Int) → Except Nat (List Sp × Int)
  | .error j => .error j
  | .ok (m, win) => .ok (l ++ m, win)
/-- Steps and their comparisons in memory of their own. -/
def OwnP (w : World) (base : Nat) (v : Value) (L : List (Sp × Value)) : Prop := w.ownsRow base 39 6 v L.length (Tree.spsCells L) ∧ ∀ x ∈ L, OwnC w base x.2 x.1.cs
theorem drew_grown (w : World) (row : Option Nat) : w.grownBy w.drew row := ⟨rfl, rfl, rfl, Nat.le_refl _, fun _ _ _ => rfl⟩
theorem OwnP.kept {w w' : World} {b : Nat} {v : Value} {L : List (Sp × Value)} {row : Option Nat} (h : OwnP w b v L) (hg : w.grownBy w' row) (hR : ∀ q, row = some q → q < b) : OwnP w' b v L := by
  have key : ∀ (u : Value) (e sz n : Nat) (xs : List Value), w.ownsRow b e sz u n xs → u.ownBlock = none ∨ u.ownBlock ≠ row := fun u e sz n xs hu => by
    rcases hv : u.ownBlock with _ | q
    · exact .inl rfl
    · have := (hu.lt q hv).1
      exact .inr (fun e => by have := hR q e.symm; omega)
  exact ⟨World.ownsRow.kept h.1 hg (key _ _ _ _ _ h.1), fun x hx => World.ownsRow.kept (h.2 x hx) hg (key _ _ _ _ _ (h.2 x hx))⟩
theorem own_apart {w : World} {b b' n n' : Nat} {u v : Value} {xs ys : List Value} (h1 : w.ownsRow b 48 9 u n xs) (h2 : w.ownsRow b' 39 6 v n' ys) : u.ownBlock = none ∨ u.ownBlock ≠ v.ownBlock := by
  rcases h1.2 with ⟨rfl, -⟩ | ⟨g1, cap1, cur1, rfl, -, e1, -⟩
  · exact .inl rfl
  · rcases h2.2 with ⟨rfl, -⟩ | ⟨g2, cap2, cur2, rfl, -, e2, -⟩
    · exact .inr (by simp [Value.ownBlock])
    · refine .inr ?_
      simp only [Value.ownBlock]
      intro e
      have : g1 = g2 := by simpa using e
      subst this
      rw [e1] at e2
      simp at e2
theorem spsCells_snoc (L : List (Sp × Value)) (x : Sp × Value) : Tree.spsCells (L ++ [x]) = Tree.spsCells L ++ [.bool x.1.neg, .int .i64 x.1.kind, .int .i64 x.1.min, .int .i64 x.1.max, .bool x.1.strict, x.2] := by
  simp [Tree.spsCells]
theorem OwnP.app {w w' : World} {b : Nat} {v v' : Value} {L : List (Sp × Value)} {s : Sp} {vs : Value} (h : OwnP w b v L) (hc : OwnC w b vs s.cs) (hg : w.grownBy w' v.ownBlock)
    (hrow : w'.ownsRow b 39 6 v' (L.length + 1) (Tree.spsCells L ++ [.bool s.neg, .int .i64 s.kind, .int .i64 s.min, .int .i64 s.max, .bool s.strict, vs])) : OwnP w' b v' (L ++ [(s, vs)]) := by
  refine ⟨?_, fun x hx => ?_⟩
  · rw [spsCells_snoc, List.length_append]; exact hrow
  · rcases List.mem_append.1 hx with hx | hx
    · exact World.ownsRow.kept (h.2 x hx) hg (own_apart (h.2 x hx) h.1)
    · obtain rfl := List.mem_singleton.1 hx
      exact World.ownsRow.kept hc hg (own_apart hc h.1)
theorem Tryd.info39 : (Tryd.prog.info? 39).map (fun i => (i.zero, i.size, i.bytes)) = some (some (.agg #[.bool false, .int .i64 0, .int .i64 0, .int .i64 0, .bool false, .slice none 0 0]), 6, 64) := by kernel_rfl
/-- What pattern tells: a pattern or a token. -/
def ToldE {α : Type} (R : Nat) (ts : List (Tk × Nat)) (val : World → α → Value → Prop) (r : Except Nat α) (w : World) (e : Ending) (w' : World) : Prop :=
  w.grownBy w' (some R) ∧ match r with
    | .ok v => ∃ u, e = .returned u ∧ val w' v u
    | .error j => ∃ x, ts[j]? = some x ∧ e = noTok x
/-- Behind the append: what lies where, once more. -/
theorem pat_app {w wd w1 w2 : World} {R g c k S g2 cap2 : Nat} {ts : List (Tk × Nat)} {L : List (Sp × Value)} {s : Sp} {vsa va : Option Addr} {vsc vc : Nat} {o : Obj}
    (hgd : w.grownBy wd (some R)) (hg1 : wd.grownBy w1 (some R)) (hOP2 : OwnP (w1.alloc o) (S + 2) (.slice va L.length vc) L) (hOs2 : (w1.alloc o).ownsRow (S + 2) 48 9 (.slice vsa s.cs.length vsc) s.cs.length (Tree.cpsCells s.cs))
    (hgrow : (w1.alloc o).grownBy w2 (Value.ownBlock (.slice va L.length vc))) (hown : w2.ownsRow (S + 2) 39 6 (.slice (some ⟨g2, 0, none⟩) (L.length + 1) cap2) (L.length + 1) (Tree.spsCells L ++ [.bool s.neg, .int .i64 s.kind, .int .i64 s.min, .int .i64 s.max, .bool s.strict, .slice vsa s.cs.length vsc]))
    (hat : Value.ownBlock (.slice va L.length vc) = some g2 ∨ g2 = (w1.alloc o).heap.size) (hB1 : w1.heap[S + 1]? = some (.cells #[.slice va L.length vc, .int .i64 0] 25 (0, 0))) (hA1 : w1.heap[S]? = some (.cells #[.slice none 0 0, .int .i64 0] 25 (0, 0)))
    (hR1 : RdK R g c ts k w1) (hs1 : S + 2 ≤ w1.heap.size) (hRl : R < S) (hgl : g < S) (hS : w.heap.size ≤ S) :
    w2.cell? ⟨S + 1, 0, none⟩ = some (.slice va L.length vc) ∧ w2.frozen? ⟨S + 1, 0, none⟩ = false ∧
      RdK R g c ts k (w2.setCell ⟨S + 1, 0, none⟩ (.slice (some ⟨g2, 0, none⟩) (L.length + 1) cap2)) ∧ w.grownBy (w2.setCell ⟨S + 1, 0, none⟩ (.slice (some ⟨g2, 0, none⟩) (L.length + 1) cap2)) (some R) ∧
      S + 2 ≤ (w2.setCell ⟨S + 1, 0, none⟩ (.slice (some ⟨g2, 0, none⟩) (L.length + 1) cap2)).heap.size ∧
      (w2.setCell ⟨S + 1, 0, none⟩ (.slice (some ⟨g2, 0, none⟩) (L.length + 1) cap2)).heap[S]? = some (.cells #[.slice none 0 0, .int .i64 0] 25 (0, 0)) ∧
      (w2.setCell ⟨S + 1, 0, none⟩ (.slice (some ⟨g2, 0, none⟩) (L.length + 1) cap2)).heap[S + 1]? = some (.cells #[.slice (some ⟨g2, 0, none⟩) (L.length + 1) cap2, .int .i64 0] 25 (0, 0)) ∧
      OwnP (w2.setCell ⟨S + 1, 0, none⟩ (.slice (some ⟨g2, 0, none⟩) (L.length + 1) cap2)) (S + 2) (.slice (some ⟨g2, 0, none⟩) (L.length + 1) cap2) (L ++ [(s, .slice vsa s.cs.length vsc)]) := by
  have hrow : ∀ q, Value.ownBlock (.slice va L.length vc) = some q → S + 2 ≤ q := fun q hq => (hOP2.1.lt q hq).1
  have hA2 := (World.grownBy_alloc w1 o none)
  have keep : ∀ b, b < S + 2 → w2.heap[b]? = w1.heap[b]? := fun b hb => (hgrow.block b (by simp; omega) (fun e => by have := hrow b e.symm; omega)).trans (hA2.block b (by omega) (by simp))
  have hB2 := (keep (S + 1) (by omega)).trans hB1
  have hA3 := (keep S (by omega)).trans hA1
  have hRw2 : RdK R g c ts k w2 := (hR1.kept hA2).keptRow hgrow (fun e => by have := hrow R e.symm; omega) (fun e => by have := hrow g e.symm; omega)
  have hg2 : w.grownBy w2 (some R) := grown_app (grown_more (grown_more hgd hg1) (World.grownBy_alloc w1 o (some R))) hgrow (fun b hb => by have := hrow b hb; omega)
  have hs2 : S + 2 ≤ w2.heap.size := Nat.le_trans hs1 (Nat.le_trans hA2.size hgrow.size)
  have hOP3 := OwnP.app hOP2 hOs2 hgrow hown
  have hset := set_grown w2 (S + 1) 0 (.slice (some ⟨g2, 0, none⟩) (L.length + 1) cap2)
  refine ⟨by simp [World.cell?, hB2], by simp [World.frozen?, hB2], hRw2.far (by omega) (by omega), grown_set hg2 (by omega), Nat.le_trans hs2 hset.size, box_far hA3 (by omega), ?_, hOP3.kept hset (fun q e => by cases e; omega)⟩
  have := box_set hB2 0 (.slice (some ⟨g2, 0, none⟩) (L.length + 1) cap2)
  simpa using this
theorem wp_norm {P : Program} {c : Code} {K N : Act → World → Prop} {Q : Exit → Act → World → Prop} {a : Act} {w : World} (reg : c.wp P (Exit.then N Q) a w) (imp : ∀ a w, N a w → K a w) : c.wp P (Exit.then K Q) a w :=
  Code.wp_mono (fun e a w h => by cases e <;> first | exact h | exact imp _ _ h) reg
theorem World.ownsRow.mono' {w : World} {b b' e sz n : Nat} {v : Value} {xs : List Value} (h : w.ownsRow b e sz v n xs) (hb : b' ≤ b) : w.ownsRow b' e sz v n xs := by
  refine ⟨h.1, ?_⟩
  rcases h.2 with hn | ⟨g, cap, cur, e1, e2, r⟩
  · exact .inl hn
  · exact .inr ⟨g, cap, cur, e1, Nat.le_trans hb e2, r⟩
set_option maxRecDepth 100000 in
set_option maxHeartbeats 4000000 in
theorem pattern_P {R g c : Nat} {ts : List (Tk × Nat)} (w : World) (hE : EndsT ts) (hn : ts.length ≤ 4000) (hk : 0 < ts.length) (h : RdK R g c ts 0 w) :
    Calls Tryd.prog 40 #[.pointer (some ⟨R, 0, none⟩)] w (ToldE R ts (fun w' p u => ∃ v L, u = Tree.ptV v p.2 ∧ OwnP w' w.heap.size v L ∧ L.map (·.1) = p.1) (patP ts) w) := by
  have hgl : g < w.heap.size := by obtain ⟨-, ⟨base, h2⟩, -, -⟩ := h; exact tks_lt h2
  have hRl := h.lt
  have hR0 := h.kept ((World.grownBy_alloc w (.cells #[.slice none 0 0, .int .i64 0] 25) none).trans (World.grownBy_alloc _ (.cells #[.slice none 0 0, .int .i64 0] 25) none))
  have hgR : w.grownBy ((w.alloc (.cells #[.slice none 0 0, .int .i64 0] 25)).alloc (.cells #[.slice none 0 0, .int .i64 0] 25)) (some R) := (World.grownBy_alloc w _ (some R)).trans (World.grownBy_alloc _ _ (some R))
  have bA : ((w.alloc (.cells #[.slice none 0 0, .int .i64 0] 25)).alloc (.cells #[.slice none 0 0, .int .i64 0] 25)).heap[w.heap.size]? = some (.cells #[.slice none 0 0, .int .i64 0] 25 (0, 0)) :=
    ((World.grownBy_alloc _ (.cells #[.slice none 0 0, .int .i64 0] 25) none).block _ (by simp) (by simp)).trans (World.alloc_heap_new w _)
  have bB : ((w.alloc (.cells #[.slice none 0 0, .int .i64 0] 25)).alloc (.cells #[.slice none 0 0, .int .i64 0] 25)).heap[w.heap.size + 1]? = some (.cells #[.slice none 0 0, .int .i64 0] 25 (0, 0)) := by
    have := World.alloc_heap_new (w.alloc (.cells #[.slice none 0 0, .int .i64 0] 25)) (.cells #[.slice none 0 0, .int .i64 0] 25)
    rwa [World.size_alloc] at this
  obtain ⟨RES, hRES⟩ : ∃ r, patP ts = r := ⟨_, rfl⟩
  rw [hRES]
  obtain ⟨S, hS⟩ : ∃ S, w.heap.size = S := ⟨_, rfl⟩
  rw [hS] at hgl hRl bA bB ⊢
  have hsz : S + 2 ≤ ((w.alloc (.cells #[.slice none 0 0, .int .i64 0] 25)).alloc (.cells #[.slice none 0 0, .int .i64 0] 25)).heap.size := by simp; omega
  replace hE := Lib.hid hE
  obtain ⟨J, hJ⟩ : ∃ J : Act → World → Prop, J = (fun a' w' => ∃ (L : List (Sp × Value)) (v : Value) (k' f : Nat) (strict : Bool) (u1 u5 u6 u7 u8 u9 u10 u11 u12 u13 u14 u15 u16 u17 u18 u19 u20 u21 u22 u23 u24 u25 u26 u27 u28 u29 u30 u31 : Value), a' = { tmps := #[.pointer (some ⟨R, 0, none⟩), u1, .pointer (some ⟨S, 0, none⟩), .pointer (some ⟨S + 1, 0, none⟩), .bool strict, u5, u6, u7, u8, u9, u10, u11, u12, u13, u14, u15, u16, u17, u18, u19, u20, u21, u22, u23, u24, u25, u26, u27, u28, u29, u30, u31], defers := [] } ∧ RdK R g c ts k' w' ∧ w.grownBy w' (some R) ∧ S + 2 ≤ w'.heap.size ∧ w'.heap[S]? = some (.cells #[.slice none 0 0, .int .i64 0] 25 (0, 0)) ∧ w'.heap[S + 1]? = some (.cells #[v, .int .i64 0] 25 (0, 0)) ∧ OwnP w' (S + 2) v L ∧ k' < ts.length ∧ L.length ≤ k' ∧ ts.length ≤ f + k' ∧ RES = joinP (L.map (·.1)) (patF ts f L.length strict k')) := ⟨_, rfl⟩
  obtain ⟨F, hF⟩ : ∃ F, F = Tryd.f40 := ⟨_, rfl⟩
  have passX : ∀ a w0, J a w0 → Code.wp Tryd.prog (afterLabel Tryd.f40.body) (Exit.jump 0 (fun a' w' => J a' w' ∧ leftM R w' < leftM R w0) (bodyPost Tryd.prog F (ToldE R ts (fun w' p u => ∃ v L, u = Tree.ptV v p.2 ∧ OwnP w' S v L ∧ L.map (·.1) = p.1) RES w))) a w0 := by
    intro a' w' hj
    rw [hJ] at hj
    obtain ⟨L, v, k', f, strict, u1, u5, u6, u7, u8, u9, u10, u11, u12, u13, u14, u15, u16, u17, u18, u19, u20, u21, u22, u23, u24, u25, u26, u27, u28, u29, u30, u31, rfl, hR, hg, hs2, hA, hB, hO, hk', hl, hf, hres⟩ := hj
    replace hF := Lib.hid hF
    replace hJ := Lib.hid hJ
    dsimp only [afterLabel, Tryd.f40]
    obtain ⟨f, rfl⟩ : ∃ m, f = m + 1 := ⟨f - 1, by omega⟩
    obtain ⟨va, vc, rfl⟩ : ∃ a c, v = .slice a L.length c := by
      rcases hO.1.2 with ⟨rfl, hn⟩ | ⟨g, cap, cur, e1, r⟩
      · exact ⟨none, 0, by rw [hn]⟩
      · exact ⟨_, _, e1⟩
    replace hres := Lib.hid hres
    have hc0 : w'.drew.cell? ⟨S + 1, 0, none⟩ = some (.slice va L.length vc) := by
      have hB' : w'.drew.heap[S + 1]? = some (.cells #[.slice va L.length vc, .int .i64 0] 25 (0, 0)) := hB
      simp [World.cell?, hB']
    have hRd := hR.kept (drew_grown w' none)
    have hM := Lib.hid (step_P (L.length : Int) strict w'.drew hE.out hn hk' hRd)
    clear hR0 hgR bA bB hsz
    go_wp2_with fail
    have hgd := grown_more hg (drew_grown w' (some R))
    have hOd := hO.kept (drew_grown w' none) (fun q e => by cases e)
    obtain ⟨i0, hi, hz0, hz1, hz2⟩ := info_parts Tryd.info39
    have hi := Lib.hid hi
    clear hR hg hO
    have hs2d : S + 2 ≤ w'.drew.heap.size := hs2
    have hAd : w'.drew.heap[S]? = some (.cells #[.slice none 0 0, .int .i64 0] 25 (0, 0)) := hA
    have hBd : w'.drew.heap[S + 1]? = some (.cells #[.slice va L.length vc, .int .i64 0] 25 (0, 0)) := hB
    clear hA hB hs2
    obtain ⟨wd, hwd⟩ : ∃ wd, w'.drew = wd := ⟨_, rfl⟩
    have hleft : leftM R w' = ts.length - k' := by
      have := leftM_rd hRd
      exact this
    rw [hwd] at hc0 hRd hM hgd hOd hs2d hAd hBd
    have n1 : S ≠ R := by omega
    have hRl' : R < S := hRl
    have hgl' : g < S := hgl
    have n2 : S + 1 ≠ R := by omega
    have hpf : patF ts (f + 1) L.length strict k' = match stepP ts (L.length : Int) strict k' with
      | .error j => .error j
      | .ok (s, k1) =>
        if mayP ts 5 44 k1 || mayP ts 5 59 k1 then match patF ts f (L.length + 1) (mayP ts 5 44 k1) (k1 + 1) with
          | .error j => .error j
          | .ok (l, win) => .ok (s :: l, win)
        else match endP ts k1 with
          | .error j => .error j
          | .ok win => .ok ([s], win) := rfl
    replace hpf := Lib.hid hpf
    replace hM : Hid (Calls Tryd.prog 68 #[.pointer (some ⟨R, 0, none⟩), .int .i64 (L.length : Int), .bool strict] wd fun e w1 => (∃ j x, RES = .error j ∧ ts[j]? = some x ∧ e = noTok x ∧ wd.grownBy w1 (some R)) ∨ (∃ s k1 va vc, stepP ts (L.length : Int) strict k' = .ok (s, k1) ∧ e = .returned (Tree.spV s (.slice va s.cs.length vc)) ∧ OwnC w1 wd.heap.size (.slice va s.cs.length vc) s.cs ∧ RdK R g c ts k1 w1 ∧ k1 < ts.length ∧ wd.grownBy w1 (some R))) := by
      refine Lib.hid (hM.out.mono ?_)
      rintro e w1 ⟨hg1, hT⟩
      cases hr1 : stepP ts (L.length : Int) strict k' with
      | error j =>
        rw [hr1] at hT
        obtain ⟨x, hx, rfl⟩ := hT
        exact .inl ⟨j, x, by rw [hres.out, hpf.out, hr1]; rfl, hx, rfl, hg1⟩
      | ok y =>
        obtain ⟨s, k1⟩ := y
        rw [hr1] at hT
        obtain ⟨⟨u, rfl, vs, rfl, hOs⟩, hR1, hk1⟩ := hT
        obtain ⟨vsa, vsc, rfl⟩ := hOs.shape
        exact .inr ⟨s, k1, vsa, vsc, rfl, rfl, hOs, hR1, hk1, hg1⟩
    obtain ⟨NORM, hNORM⟩ : ∃ N : Act → World → Prop, N = (fun a2 w2 => ∃ (s : Sp) (k1 : Nat) (vs v2 : Value) (x1 x5 x6 x7 x8 x9 x10 x11 x12 x13 x14 x15 x16 x17 x18 x19 x20 x21 x22 x23 x24 x25 x26 x27 x28 x29 x30 x31 : Value), a2 = { tmps := #[.pointer (some ⟨R, 0, none⟩), x1, .pointer (some ⟨S, 0, none⟩), .pointer (some ⟨S + 1, 0, none⟩), .bool strict, x5, x6, x7, x8, x9, x10, x11, x12, x13, x14, x15, x16, x17, x18, x19, x20, x21, x22, x23, x24, x25, x26, x27, x28, x29, x30, x31], defers := [] } ∧ stepP ts (L.length : Int) strict k' = .ok (s, k1) ∧ RdK R g c ts k1 w2 ∧ k1 < ts.length ∧ w.grownBy w2 (some R) ∧ S + 2 ≤ w2.heap.size ∧ w2.heap[S]? = some (.cells #[.slice none 0 0, .int .i64 0] 25 (0, 0)) ∧ w2.heap[S + 1]? = some (.cells #[v2, .int .i64 0] 25 (0, 0)) ∧ OwnP w2 (S + 2) v2 (L ++ [(s, vs)])) := ⟨_, rfl⟩
    replace hNORM := Lib.hid hNORM
    refine wp_norm (N := NORM) ?reg (fun a2 w2 hh => ?imp)
    case reg =>
      go_region_law (first
        | (go_simp; (with_reducible refine hM.out.mono ?_); rintro e w1 (⟨j, x, hj, hx, rfl, hg1⟩ | ⟨s, k1, vsa, vsc, hr1, rfl, hOs, hR1, hk1, hg1⟩); (focus (exact ⟨rfl, grown_more hgd hg1, by rw [hj]; exact ⟨x, hx, rfl⟩⟩)); have hcX : w1.cell? ⟨S + 1, 0, none⟩ = some (.slice va L.length vc) := hg1.cell hc0 (by simp; omega); have hcY := (World.grownBy_alloc w1 (.cells #[.bool s.neg, .int .i64 s.kind, .int .i64 s.min, .int .i64 s.max, .bool s.strict, .slice vsa s.cs.length vsc] 39) none).cell hcX (by simp); have hOP2 := (hOd.kept hg1 (fun q e => by cases e; omega)).kept (World.grownBy_alloc w1 (.cells #[.bool s.neg, .int .i64 s.kind, .int .i64 s.min, .int .i64 s.max, .bool s.strict, .slice vsa s.cs.length vsc] 39) none) (fun q e => by cases e); have hB1 := (hg1.block (S + 1) (by omega) (by simp; omega)).trans hBd; have hA1 := (hg1.block S (by omega) (by simp; omega)).trans hAd; have hOs2 := World.ownsRow.alloc (OwnC.mono hOs hs2d) (.cells #[.bool s.neg, .int .i64 s.kind, .int .i64 s.min, .int .i64 s.max, .bool s.strict, .slice vsa s.cs.length vsc] 39); have hs1 : S + 2 ≤ w1.heap.size := Nat.le_trans hs2d hg1.size; have hC6 := cells_new w1 [.bool s.neg, .int .i64 s.kind, .int .i64 s.min, .int .i64 s.max, .bool s.strict, .slice vsa s.cs.length vsc] 39)
        | (refine step_append_lies _ (by rfl) _ _ 23 (by rfl) (S + 2) 39 i0 _ 6 64 Tryd.underlying23 hi.out hz0 hz1 hz2 rfl (by decide) (.slice va L.length vc) L.length (Tree.spsCells L) (by rfl) hOP2.1 ⟨w1.heap.size, 0, none⟩ 1 1 [.bool s.neg, .int .i64 s.kind, .int .i64 s.min, .int .i64 s.max, .bool s.strict, .slice vsa s.cs.length vsc] (by rfl) rfl hC6 (by simp [Value.oneCell']) (by decide) (by unfold maxLen; omega) (by omega) (by simp; omega) _ rfl ?_; intro g2 cap2 w2 hown hgrow hat hlt; have F2 := pat_app hgd hg1 hOP2 hOs2 hgrow hown hat hB1 hA1 hR1 hs1 hRl' hgl' (by omega); have p0 := F2.1; have f0 := F2.2.1))
      all_goals
        show NORM _ _
        rw [hNORM.out]
        exact ⟨s, k1, _, _, _, _, _, _, _, _, _, _, _, _, _, _, _, _, _, _, _, _, _, _, _, _, _, _, _, _, _, _, rfl, hr1, F2.2.2.1, hk1, F2.2.2.2.1, F2.2.2.2.2.1, F2.2.2.2.2.2.1, F2.2.2.2.2.2.2.1, F2.2.2.2.2.2.2.2⟩
    case imp =>
      rw [hNORM.out] at hh
      obtain ⟨s, k1, vs, v2, x1, x5, x6, x7, x8, x9, x10, x11, x12, x13, x14, x15, x16, x17, x18, x19, x20, x21, x22, x23, x24, x25, x26, x27, x28, x29, x30, x31, rfl, hr1, hR2, hk1, hg2, hs2, hA2, hB2, hO2⟩ := hh
      have hgt : k' < k1 := step_gt hr1
      replace hr1 := Lib.hid hr1
      obtain ⟨ya, yc, hv2⟩ : ∃ a c, v2 = .slice a (L ++ [(s, vs)]).length c := by
        rcases hO2.1.2 with ⟨rfl, hn⟩ | ⟨g, cap, cur, e1, r⟩
        · exact ⟨none, 0, by rw [hn]⟩
        · exact ⟨_, _, e1⟩
      obtain ⟨N, hN⟩ : ∃ N, (L ++ [(s, vs)]).length = N := ⟨_, rfl⟩
      rw [hN] at hv2
      subst hv2
      clear hM hOd hAd hBd hc0 hRd hgd
      have M1 := Lib.hid (may_P 5 44 w2 hE.out hk1 (by decide) hR2)
      obtain ⟨b1, hb1⟩ : ∃ b, mayP ts 5 44 k1 = b := ⟨_, rfl⟩
      rw [hb1] at M1
      replace hb1 := Lib.hid hb1
      replace hO2 := Lib.hid hO2
      go_wp2_with fail
      (with_reducible refine M1.out.mono ?_)
      rintro e w3 ⟨rfl, hR3, hg3, hk3⟩
      clear M1
      have hg9 := grown_more hg2 hg3
      have hs9 := Nat.le_trans hs2 hg3.size
      have hA9 := box_kept hA2 hg3 n1
      have hB9 := box_kept hB2 hg3 n2
      have hO9 := Lib.hid (hO2.out.kept hg3 (fun q e => by cases e; omega))
      clear hA2 hB2 hs2 hg2 hO2
      cases b1
      · replace hR3 : RdK R g c ts k1 w3 := hR3
        clear hk3
        have M2 := Lib.hid (may_P 5 59 w3 hE.out hk1 (by decide) hR3)
        obtain ⟨b2, hb2⟩ : ∃ b, mayP ts 5 59 k1 = b := ⟨_, rfl⟩
        rw [hb2] at M2
        go_wp2_with fail
        (with_reducible refine M2.out.mono ?_)
        rintro e w4 ⟨rfl, hR4, hg4, hk4⟩
        clear M2
        replace hg9 := grown_more hg9 hg4
        replace hs9 := Nat.le_trans hs9 hg4.size
        replace hA9 := box_kept hA9 hg4 n1
        replace hB9 := box_kept hB9 hg4 n2
        replace hO9 := Lib.hid (hO9.out.kept hg4 (fun q e => by cases e; omega))
        cases b2
        · replace hR4 : RdK R g c ts k1 w4 := hR4
          clear hk4
          have hRe : Hid (RES = joinP (L.map (·.1)) (match endP ts k1 with | .error j => .error j | .ok win => .ok ([s], win))) := by
            refine Lib.hid ?_
            rw [hres.out, hpf.out, hr1.out]
            simp [hb1.out, hb2]
          replace hg9 := Lib.hid hg9
          have M5 := Lib.hid (must_P 3 0 w4 hE.out hk1 (by decide) hR4)
          go_wp2_with fail
          (with_reducible refine M5.out.mono ?_)
          rintro e w5 ⟨hg5, hT⟩
          clear M5
          cases hr5 : mustP ts 3 0 k1 with
          | error j =>
            simp only [hr5] at hT
            obtain ⟨x, hx, rfl⟩ := hT
            replace hx := Lib.hid hx
            have hR' : RES = .error j := by rw [hRe.out]; simp [endP, hr5, joinP]
            subst hR'
            clear hr5 hRe hr1 hpf hres
            go_wp2_with fail
            exact ⟨rfl, grown_more hg9.out hg5, x, hx.out, rfl⟩
          | ok y =>
          obtain ⟨un5, k5⟩ := y
          simp only [hr5] at hT
          obtain ⟨⟨u, rfl, rfl⟩, hR5, hk5⟩ := hT
          replace hr5 := Lib.hid hr5
          replace hg9 := Lib.hid (grown_more hg9.out hg5)
          replace hs9 := Nat.le_trans hs9 hg5.size
          replace hA9 := box_kept hA9 hg5 n1
          replace hB9 := box_kept hB9 hg5 n2
          replace hO9 := Lib.hid (hO9.out.kept hg5 (fun q e => by cases e; omega))
          have M6 := Lib.hid (one_P 1 w5 hE.out hk5 (by decide) hR5)
          clear hg5
          go_wp2_with fail
          (with_reducible refine M6.out.mono ?_)
          rintro e w6 ⟨hg6, hT⟩
          clear M6
          cases hr6 : oneP ts 1 k5 with
          | error j =>
            simp only [hr6] at hT
            obtain ⟨x, hx, rfl⟩ := hT
            replace hx := Lib.hid hx
            have hR' : RES = .error j := by rw [hRe.out]; simp [endP, hr5.out, hr6, joinP]
            subst hR'
            clear hr6 hRe hr1 hpf hres
            go_wp2_with fail
            exact ⟨rfl, grown_more hg9.out hg6, x, hx.out, rfl⟩
          | ok y =>
          obtain ⟨win, k6⟩ := y
          simp only [hr6] at hT
          obtain ⟨⟨u, rfl, rfl⟩, hR6, hk6⟩ := hT
          replace hr6 := Lib.hid hr6
          replace hg9 := Lib.hid (grown_more hg9.out hg6)
          replace hs9 := Nat.le_trans hs9 hg6.size
          replace hA9 := box_kept hA9 hg6 n1
          replace hB9 := box_kept hB9 hg6 n2
          replace hO9 := Lib.hid (hO9.out.kept hg6 (fun q e => by cases e; omega))
          have c1 : w6.cell? ⟨S + 1, 1, none⟩ = some (.int .i64 0) := by simp [World.cell?, hB9]
          have f1 : w6.frozen? ⟨S + 1, 1, none⟩ = false := by simp [World.frozen?, hB9]
          have hset := set_grown w6 (S + 1) 1 (.int .i64 win)
          have hR7 := hR6.far (o := 1) (v := .int .i64 win) n2 (by omega : S + 1 ≠ g)
          have hg7 := grown_set (o := 1) (v := .int .i64 win) hg9.out (by omega : w.heap.size ≤ S + 1)
          have hs7 := Nat.le_trans hs9 hset.size
          have hA7 := box_far (o := 1) (v := .int .i64 win) hA9 (by omega : S ≠ S + 1)
          have hB7 := box_set hB9 1 (.int .i64 win)
          simp only [List.setIfInBounds_toArray, List.set_cons_zero, List.set_cons_succ] at hB7
          have hO7 := Lib.hid (hO9.out.kept hset (fun q e => by cases e; omega))
          obtain ⟨x7, hx7⟩ : ∃ x, ts[k6]? = some x := ⟨_, List.getElem?_eq_getElem hk6⟩
          have M7 := Lib.hid (must_any R g c k6 ts 0 0 x7 (w6.setCell ⟨S + 1, 1, none⟩ (.int .i64 win)) hx7 hR7)
          clear hA9 hB9 hO9 hs9 hg9 hg6 hR6
          go_wp2_with fail
          (with_reducible refine M7.out.mono ?_)
          clear M7
          rintro e w8 (⟨h8, rfl, hR8, hg8⟩ | ⟨h8, rfl, hg8⟩)
          · have hm8 : mustP ts 0 0 k6 = .ok ((), k6 + 1) := by unfold mustP; rw [hx7]; simp [h8.1, h8.2]
            have hR' : RES = .ok (L.map (·.1) ++ [s], win) := by rw [hRe.out]; simp [endP, hr5.out, hr6.out, hm8, joinP]
            subst hR'
            have hA8 := box_kept hA7 hg8 n1
            have hB8 := box_kept hB7 hg8 n2
            have hO8 := Lib.hid (hO7.out.kept hg8 (fun q e => by cases e; omega))
            have hgZ := grown_more hg7 hg8
            have y0 : w8.cell? ⟨S + 1, 0, none⟩ = some (.slice ya N yc) := by simp [World.cell?, hB8]
            have y1 : w8.cell? ⟨S + 1, 1, none⟩ = some (.int .i64 win) := by simp [World.cell?, hB8]
            have r0 : w8.cell? ⟨S, 0, none⟩ = some (.slice none 0 0) := by simp [World.cell?, hA8]
            have f0 : w8.frozen? ⟨S, 0, none⟩ = false := by simp [World.frozen?, hA8]
            have hA8' := box_set hA8 0 (.slice ya N yc)
            simp only [List.setIfInBounds_toArray, List.set_cons_zero, List.set_cons_succ] at hA8'
            have r1 : (w8.setCell ⟨S, 0, none⟩ (.slice ya N yc)).cell? ⟨S, 1, none⟩ = some (.int .i64 0) := by simp [World.cell?, hA8']
            have f2 : (w8.setCell ⟨S, 0, none⟩ (.slice ya N yc)).frozen? ⟨S, 1, none⟩ = false := by simp [World.frozen?, hA8']
            have hA9 := Lib.hid (box_set hA8' 1 (.int .i64 win))
            have q1 := set_grown w8 S 0 (.slice ya N yc)
            have q2 := set_grown (w8.setCell ⟨S, 0, none⟩ (.slice ya N yc)) S 1 (.int .i64 win)
            have hOZ := Lib.hid ((hO8.out.kept q1 (fun q e => by cases e; omega)).kept q2 (fun q e => by cases e; omega))
            have hgY := Lib.hid (grown_set (o := 1) (v := .int .i64 win) (grown_set (o := 0) (v := .slice ya N yc) hgZ (by omega : w.heap.size ≤ S)) (by omega : w.heap.size ≤ S))
            clear hA7 hB7 hO7 hA8 hB8 hO8 hA8' q1 q2 hgZ hg7 hg8 hR7 hR8 hRe hr1 hpf hres
            go_wp2_with fail
            rw [hF.out]
            exact bodyPost_ret (v := .agg #[.slice ya N yc, .int .i64 win]) (results_cell_row rfl _ _ S 25 _ (0, 0) _ rfl hA9.out Tryd.underlying25 rfl (by kernel_rfl)) rfl ⟨hgY.out, _, rfl, _, L ++ [(s, vs)], rfl, ⟨World.ownsRow.mono' hOZ.out.1 (by omega), fun x hx => OwnC.mono (hOZ.out.2 x hx) (by omega)⟩, by simp⟩
          · have hm8 : mustP ts 0 0 k6 = .error k6 := by unfold mustP; rw [hx7]; simp only [h8, if_false]
            have hR' : RES = .error k6 := by rw [hRe.out]; simp [endP, hr5.out, hr6.out, hm8, joinP]
            subst hR'
            clear hRe hr1 hpf hres
            go_wp2_with fail
            exact ⟨rfl, grown_more hg7 hg8, x7, hx7, rfl⟩
        · replace hR4 : RdK R g c ts (k1 + 1) w4 := hR4
          have hk9 : k1 + 1 < ts.length := hk4
          have HB2 := hb2
          have hR9 := Lib.hid hR4
          have hlt9 : leftM R w4 < leftM R w' := by
            rw [leftM_rd hR9.out, hleft]
            omega
          go_wp2_with fail
          go_step3
          refine ⟨rfl, ?_, hlt9⟩
          rw [hJ.out]
          refine ⟨L ++ [(s, vs)], .slice ya N yc, k1 + 1, f, false, _, _, _, _, _, _, _, _, _, _, _, _, _, _, _, _, _, _, _, _, _, _, _, _, _, _, _, _, rfl, hR9.out, hg9, hs9, hA9, hB9, hO9.out, hk9, by rw [List.length_append]; simp; omega, by omega, ?_⟩
          rw [hres.out, hpf.out, hr1.out]
          simp only [hb1.out, HB2, Bool.or_true, Bool.true_or, if_true, List.length_append, List.length_singleton, List.map_append, List.map_cons, List.map_nil]
          cases patF ts f (L.length + 1) false (k1 + 1) with
          | error j => rfl
          | ok y => simp [joinP]
      · replace hR3 : RdK R g c ts (k1 + 1) w3 := hR3
        have hk9 : k1 + 1 < ts.length := hk3
        have HB2 : True := trivial
        have hR9 := Lib.hid hR3
        have hlt9 : leftM R w3 < leftM R w' := by
          rw [leftM_rd hR9.out, hleft]
          omega
        go_wp2_with fail
        go_step3
        refine ⟨rfl, ?_, hlt9⟩
        rw [hJ.out]
        refine ⟨L ++ [(s, vs)], .slice ya N yc, k1 + 1, f, true, _, _, _, _, _, _, _, _, _, _, _, _, _, _, _, _, _, _, _, _, _, _, _, _, _, _, _, _, rfl, hR9.out, hg9, hs9, hA9, hB9, hO9.out, hk9, by rw [List.length_append]; simp; omega, by omega, ?_⟩
        rw [hres.out, hpf.out, hr1.out]
        simp only [hb1.out, HB2, Bool.or_true, Bool.true_or, if_true, List.length_append, List.length_singleton, List.map_append, List.map_cons, List.map_nil]
        cases patF ts f (L.length + 1) true (k1 + 1) with
        | error j => rfl
        | ok y => simp [joinP]
  go_enter Tryd.func40, Tryd.ntmps40
  rw [← hF]
  go_wp2_with fail
  refine wp_scope_jumps 0 J (fun _ w' => leftM R w') rfl ?_ (fun a w hj => wp_seq (wp_skip (passX a w hj)))
  go_wp2_with fail
  go_step3
  rename_i K hK
  refine hK _ _ (Code.wp_mono (jump_weak fun _ _ hh => hh.1) (passX _ _ ?_))
  rw [hJ]
  refine ⟨[], _, 0, ts.length, false, _, _, _, _, _, _, _, _, _, _, _, _, _, _, _, _, _, _, _, _, _, _, _, _, _, _, _, _, rfl, hR0, hgR, hsz, bA, bB, ⟨World.ownsRow_nil _ _ _ _, fun x hx => by cases hx⟩, hk, Nat.le_refl _, by omega, ?_⟩
  rw [← hRES]
  unfold patP
  show patF ts ts.length 0 false 0 = joinP [] (patF ts ts.length 0 false 0)
  cases patF ts ts.length 0 false 0 with
  | error j => rfl
  | ok y => rfl
end Go.Proofs.YtkedifhlkiffoaaDoor
