/-
  Contract of the reader's cmps.
-/
import Derived.Test.YtkedifhlkiffoaaDoorPH
import Derived.Test.YtkedifhlkiffoaaDoorR
import Derived.ScopeJumps
import Derived.Laws.AppendOwn
import Derived.Deep.RegionHeld3
namespace Go.Proofs.YtkedifhlkiffoaaDoor
open Go.ChangeShapes Go.WideShapes Go.ChangeAt Go.RowKit
open Tree (Tm Cp Sp)
set_option linter.unusedVariables false
set_option linter.unusedSimpArgs false
attribute [local go_sem] Oper.semAt_some
def cpO (n : Int × (Int × Int × Int × Int) × (Int × Int × Int × Int)) : Cp := ⟨n.1, ⟨n.2.1.1, n.2.1.2.1, n.2.1.2.2.1, n.2.1.2.2.2⟩, ⟨n.2.2.1, n.2.2.2.1, n.2.2.2.2.1, n.2.2.2.2.2⟩⟩
/-- Comparisons up to the bracket, at most f of them. -/
def cmpsF (ts : List (Tk × Nat)) : Nat → Nat → Except Nat (List Cp × Nat)
  | 0, k => .error k
  | f + 1, k => match cmpP ts k with
    | .error j => .error j
    | .ok (c, k1) =>
      if mayP ts 5 38 k1 then match cmpsF ts f (k1 + 1) with
        | .error j => .error j
        | .ok (l, k2) => .ok (cpO c :: l, k2)
      else match mustP ts 5 93 k1 with
        | .error j => .error j
        | .ok (_, k2) => .ok ([cpO c], k2)
def cmpsP (ts : List (Tk × Nat)) (k : Nat) : Except Nat (List Cp × Nat) := cmpsF ts ts.length k
def joinC (l : List Cp) : Except Nat (List Cp × Nat) → Except Nat (List Cp × Nat)
  | .error j => .error j
  | .ok (m, k) => .ok (l ++ m, k)
def OwnC (w : World) (base : Nat) (v : Value) (cs : List Cp) : Prop := w.ownsRow base 48 9 v cs.length (Tree.cpsCells cs)
theorem one_gt {ts : List (Tk × Nat)} {kd : Int} {k : Nat} {x : Int × Nat} (h : oneP ts kd k = .ok x) : x.2 = k + 1 := by
  unfold oneP at h
  split at h
  · split at h
    · cases h; rfl
    · cases h
  · cases h
theorem must_gt {ts : List (Tk × Nat)} {kd n : Int} {k : Nat} {x : Unit × Nat} (h : mustP ts kd n k = .ok x) : x.2 = k + 1 := by
  unfold mustP at h
  split at h
  · split at h
    · cases h; rfl
    · cases h
  · cases h
theorem more_ge {ts : List (Tk × Nat)} {k : Nat} {x : Int × Nat} (h : moreP ts k = .ok x) : k ≤ x.2 := by
  unfold moreP at h
  split at h
  · have := one_gt h; omega
  · split at h
    · cases hr : oneP ts 1 (k + 1) with
      | error j => rw [hr] at h; cases h
      | ok y => rw [hr] at h; cases h; have := one_gt hr; simp only at this ⊢; omega
    · cases h; simp
theorem ofOne_gt {ts : List (Tk × Nat)} {k : Nat} {x : (Int × Int) × Nat} (h : ofOneP ts k = .ok x) : k < x.2 := by
  unfold ofOneP at h
  cases h1 : mustP ts 5 40 k with
  | error j => rw [h1] at h; cases h
  | ok y1 =>
  simp only [h1] at h
  have g1 := must_gt h1
  cases h2 : oneP ts 2 y1.2 with
  | error j => rw [h2] at h; cases h
  | ok y2 =>
  simp only [h2] at h
  have g2 := one_gt h2
  cases h3 : mustP ts 5 41 y2.2 with
  | error j => rw [h3] at h; cases h
  | ok y3 =>
  simp only [h3] at h
  have g3 := must_gt h3
  cases h4 : moreP ts y3.2 with
  | error j => rw [h4] at h; cases h
  | ok y4 =>
  simp only [h4] at h
  have g4 := more_ge h4
  cases h
  simp only
  omega
theorem ofTwo_gt {ts : List (Tk × Nat)} {k : Nat} {x : (Int × Int × Int) × Nat} (h : ofTwoP ts k = .ok x) : k < x.2 := by
  unfold ofTwoP at h
  cases h1 : mustP ts 5 40 k with
  | error j => rw [h1] at h; cases h
  | ok y1 =>
  simp only [h1] at h
  have g1 := must_gt h1
  cases h2 : oneP ts 2 y1.2 with
  | error j => rw [h2] at h; cases h
  | ok y2 =>
  simp only [h2] at h
  have g2 := one_gt h2
  cases h3 : mustP ts 5 44 y2.2 with
  | error j => rw [h3] at h; cases h
  | ok y3 =>
  simp only [h3] at h
  have g3 := must_gt h3
  cases h4 : oneP ts 2 y3.2 with
  | error j => rw [h4] at h; cases h
  | ok y4 =>
  simp only [h4] at h
  have g4 := one_gt h4
  cases h5 : mustP ts 5 41 y4.2 with
  | error j => rw [h5] at h; cases h
  | ok y5 =>
  simp only [h5] at h
  have g5 := must_gt h5
  cases h6 : moreP ts y5.2 with
  | error j => rw [h6] at h; cases h
  | ok y6 =>
  simp only [h6] at h
  have g6 := more_ge h6
  cases h
  simp only
  omega
theorem map_ok {α β : Type} {r : Except Nat α} {f : α → β} {x : β} (h : r.map f = .ok x) : ∃ y, r = .ok y ∧ x = f y := by
  cases r with
  | error j => cases h
  | ok y => cases h; exact ⟨y, rfl, rfl⟩
theorem named_gt {ts : List (Tk × Nat)} {k : Nat} {x : (Int × Int × Int × Int) × Nat} (h : namedP ts k = .ok x) : k < x.2 := by
  unfold namedP at h
  cases h1 : oneP ts 2 k with
  | error j => rw [h1] at h; cases h
  | ok y1 =>
  simp only [h1] at h
  have g1 := one_gt h1
  split at h
  · obtain ⟨y, hy, rfl⟩ := map_ok h; have := ofOne_gt hy; simp only; omega
  split at h
  · obtain ⟨y, hy, rfl⟩ := map_ok h; have := ofOne_gt hy; simp only; omega
  split at h
  · obtain ⟨y, hy, rfl⟩ := map_ok h; have := ofOne_gt hy; simp only; omega
  split at h
  · obtain ⟨y, hy, rfl⟩ := map_ok h; have := ofOne_gt hy; simp only; omega
  split at h
  · obtain ⟨y, hy, rfl⟩ := map_ok h; have := ofTwo_gt hy; simp only; omega
  split at h
  · obtain ⟨y, hy, rfl⟩ := map_ok h; have := ofTwo_gt hy; simp only; omega
  · cases h
theorem term_gt {ts : List (Tk × Nat)} {k : Nat} {x : (Int × Int × Int × Int) × Nat} (h : termP ts k = .ok x) : k < x.2 := by
  unfold termP at h
  split at h
  · exact named_gt h
  split at h
  · obtain ⟨y, hy, rfl⟩ := map_ok h; have := one_gt hy; simp only; omega
  · obtain ⟨y, hy, rfl⟩ := map_ok h; have := one_gt hy; simp only; omega
theorem cmp_gt {ts : List (Tk × Nat)} {k : Nat} {x : (Int × (Int × Int × Int × Int) × (Int × Int × Int × Int)) × Nat} (h : cmpP ts k = .ok x) : k < x.2 := by
  unfold cmpP at h
  cases h1 : termP ts k with
  | error j => rw [h1] at h; cases h
  | ok y1 =>
  simp only [h1] at h
  have g1 := term_gt h1
  cases h2 : oneP ts 4 y1.2 with
  | error j => rw [h2] at h; cases h
  | ok y2 =>
  simp only [h2] at h
  have g2 := one_gt h2
  cases h3 : termP ts y2.2 with
  | error j => rw [h3] at h; cases h
  | ok y3 =>
  simp only [h3] at h
  have g3 := term_gt h3
  cases h
  simp only
  omega
theorem rd_left {R g c k : Nat} {ts : List (Tk × Nat)} {W : World} (h : RdK R g c ts k W) : ∃ a, W.cell? ⟨R, 0, none⟩ = some (.slice a (ts.length - k) (c - k)) := by
  obtain ⟨⟨a, h1, -⟩, -⟩ := h
  exact ⟨a, by simp [World.cell?, h1]⟩
/-- How much the reader at R has left. -/
def leftM (R : Nat) (w : World) : Nat := match w.cell? ⟨R, 0, none⟩ with | some (.slice _ n _) => n | _ => 0
theorem leftM_rd {R g c k : Nat} {ts : List (Tk × Nat)} {W : World} (h : RdK R g c ts k W) : leftM R W = ts.length - k := by
  obtain ⟨a, e⟩ := rd_left h
  simp [leftM, e]
theorem grown_app {w X Y : World} {R : Nat} {row : Option Nat} (h1 : w.grownBy X (some R)) (h2 : X.grownBy Y row) (hrow : ∀ b, row = some b → w.heap.size ≤ b) : w.grownBy Y (some R) :=
  ⟨h2.os.trans h1.os, h2.tape.trans h1.tape, h2.output.trans h1.output, Nat.le_trans h1.size h2.size, fun k hk hne => (h2.block k (Nat.lt_of_lt_of_le hk h1.size) (fun e => by have := hrow k e.symm; omega)).trans (h1.block k hk hne)⟩
theorem RdK.keptRow {R g c k : Nat} {ts : List (Tk × Nat)} {W W' : World} {row : Option Nat} (h : RdK R g c ts k W) (hg : W.grownBy W' row) (h1 : some R ≠ row) (h2 : some g ≠ row) : RdK R g c ts k W' := by
  have hR := h.lt
  obtain ⟨⟨a, e1, h0⟩, ⟨base, e2⟩, h3, h4⟩ := h
  exact ⟨⟨a, (hg.block R hR h1).trans e1, h0⟩, ⟨base, World.ownsRow.kept e2 hg (.inr h2)⟩, h3, h4⟩
theorem cells_new (w : World) (xs : List Value) (t : TypeId) : ∀ j u, xs[j]? = some u → (w.alloc (.cells xs.toArray t)).cell? ((⟨w.heap.size, 0, none⟩ : Addr).add j) = some u := by
  intro j u hj
  have := World.alloc_heap_new w (.cells xs.toArray t)
  have hadd : (⟨w.heap.size, 0, none⟩ : Addr).add j = ⟨w.heap.size, j, none⟩ := by unfold Addr.add; split <;> simp_all
  rw [hadd]
  simp only [World.cell?, this]
  simpa using hj
theorem cpsCells_snoc (l : List Cp) (x : Cp) : Tree.cpsCells (l ++ [x]) = Tree.cpsCells l ++ [.int .u8 x.op, .int .u8 x.l.k, .int .i64 x.l.n, .int .i64 x.l.s, .int .i64 x.l.r, .int .u8 x.r.k, .int .i64 x.r.n, .int .i64 x.r.s, .int .i64 x.r.r] := by
  simp [Tree.cpsCells]
theorem Tryd.info48 : (Tryd.prog.info? 48).map (fun i => (i.zero, i.size, i.bytes)) = some (some (.agg #[.int .u8 0, .int .u8 0, .int .i64 0, .int .i64 0, .int .i64 0, .int .u8 0, .int .i64 0, .int .i64 0, .int .i64 0]), 9, 72) := by kernel_rfl
/-- What stands behind the label, where a body is one region and a scope that begins with another one and the label. -/
def afterLabel : Option Code → Code
  | some (.seq _ (.scope (.seq _ (.seq _ x)))) => x
  | _ => .skip
theorem jump_weak {l : Nat} {J J' : Act → World → Prop} {Q : Exit → Act → World → Prop} (h : ∀ a w, J a w → J' a w) : ∀ e a w, Exit.jump l J Q e a w → Exit.jump l J' Q e a w := by
  intro e a w hh
  cases e <;> first | exact hh | exact ⟨hh.1, h _ _ hh.2⟩
set_option maxRecDepth 100000 in
set_option maxHeartbeats 2000000 in
theorem cmps_P {R g c k : Nat} {ts : List (Tk × Nat)} (w : World) (hE : EndsT ts) (hn : ts.length ≤ 4000) (hk : k < ts.length) (h : RdK R g c ts k w) :
    Calls Tryd.prog 91 #[.pointer (some ⟨R, 0, none⟩)] w (Told R g c ts (fun w' cs u => OwnC w' w.heap.size u cs) (cmpsP ts k) w) := by
  have hgl : g < w.heap.size := by obtain ⟨-, ⟨base, h2⟩, -, -⟩ := h; exact tks_lt h2
  have hRl := h.lt
  obtain ⟨RES, hRES⟩ : ∃ r, cmpsP ts k = r := ⟨_, rfl⟩
  rw [hRES]
  obtain ⟨S, hS⟩ : ∃ S, w.heap.size = S := ⟨_, rfl⟩
  rw [hS] at hgl hRl ⊢
  replace hS := Lib.hid hS
  replace hE := Lib.hid hE
  obtain ⟨J, hJ⟩ : ∃ J : Act → World → Prop, J = (fun a' w' => ∃ (l : List Cp) (v : Value) (k' f : Nat) (u1 u2 u4 u5 u6 u7 u8 u9 u10 u11 u12 u13 : Value), a' = { tmps := #[.pointer (some ⟨R, 0, none⟩), u1, u2, v, u4, u5, u6, u7, u8, u9, u10, u11, u12, u13], defers := [] } ∧ RdK R g c ts k' w' ∧ w.grownBy w' (some R) ∧ OwnC w' S v l ∧ k' < ts.length ∧ l.length ≤ k' ∧ ts.length ≤ f + k' ∧ RES = joinC l (cmpsF ts f k')) := ⟨_, rfl⟩
  obtain ⟨Q, hQ⟩ : ∃ Q, Q = bodyPost Tryd.prog Tryd.f91 (Told R g c ts (fun w' cs u => OwnC w' S u cs) RES w) := ⟨_, rfl⟩
  have passX : ∀ a w0, J a w0 → Code.wp Tryd.prog (afterLabel Tryd.f91.body) (Exit.jump 0 (fun a' w' => J a' w' ∧ leftM R w' < leftM R w0) Q) a w0 := by
    intro a' w' hj
    rw [hJ] at hj
    obtain ⟨l, v, k', f, u1, u2, u4, u5, u6, u7, u8, u9, u10, u11, u12, u13, rfl, hR, hg, hO, hk', hl, hf, hres⟩ := hj
    replace hQ := Lib.hid hQ
    replace hJ := Lib.hid hJ
    dsimp only [afterLabel, Tryd.f91]
    replace hR := Lib.hid hR
    replace hO := Lib.hid hO
    have hgl' : g < w'.heap.size := Nat.lt_of_lt_of_le hgl (by rw [← hS.out]; exact hg.size)
    obtain ⟨f, rfl⟩ : ∃ m, f = m + 1 := ⟨f - 1, by omega⟩
    have hcf : cmpsF ts (f + 1) k' = match cmpP ts k' with
      | .error j => .error j
      | .ok (c, k1) =>
        if mayP ts 5 38 k1 then match cmpsF ts f (k1 + 1) with
          | .error j => .error j
          | .ok (l, k2) => .ok (cpO c :: l, k2)
        else match mustP ts 5 93 k1 with
          | .error j => .error j
          | .ok (_, k2) => .ok ([cpO c], k2) := rfl
    replace hcf := Lib.hid hcf
    replace hres := Lib.hid hres
    go_wp2_with fail
    (with_reducible refine (cmp_P w' hE.out hk' hR.out).mono ?_)
    rintro e w1 ⟨hg1, hT⟩
    cases hr1 : cmpP ts k' with
    | error j =>
      simp only [hr1] at hT
      obtain ⟨x, hx, rfl⟩ := hT
      replace hx := Lib.hid hx
      have hR' : RES = .error j := by rw [hres.out, hcf.out, hr1]; rfl
      subst hR'
      clear hr1 hres hcf
      go_wp2_with fail
      show Q _ _ _
      rw [hQ.out]
      exact ⟨rfl, grown_more hg hg1, x, hx.out, rfl⟩
    | ok y =>
    obtain ⟨cv, k1⟩ := y
    rw [hr1] at hT
    obtain ⟨⟨u, rfl, rfl⟩, hR1, hk1⟩ := hT
    have hgt : k' < k1 := cmp_gt hr1
    replace hr1 := Lib.hid hr1
    have hO1 : OwnC w1 S v l := World.ownsRow.kept hO.out hg1 (by
      rcases hv : v.ownBlock with _ | b
      · exact .inl rfl
      · have := (hO.out.lt b hv).1
        exact .inr (fun e => by cases e; omega))
    have hS1 : S ≤ w1.heap.size := by rw [← hS.out]; exact (grown_more hg hg1).size
    have hO2 := World.ownsRow.alloc hO1 (.cells #[.int .u8 cv.1, .int .u8 cv.2.1.1, .int .i64 cv.2.1.2.1, .int .i64 cv.2.1.2.2.1, .int .i64 cv.2.1.2.2.2, .int .u8 cv.2.2.1, .int .i64 cv.2.2.2.1, .int .i64 cv.2.2.2.2.1, .int .i64 cv.2.2.2.2.2] 48)
    have hC9 := Lib.hid (cells_new w1 [.int .u8 cv.1, .int .u8 cv.2.1.1, .int .i64 cv.2.1.2.1, .int .i64 cv.2.1.2.2.1, .int .i64 cv.2.1.2.2.2, .int .u8 cv.2.2.1, .int .i64 cv.2.2.2.1, .int .i64 cv.2.2.2.2.1, .int .i64 cv.2.2.2.2.2] 48)
    have hlt := hO2.lt
    replace hO2 := Lib.hid hO2
    obtain ⟨i0, hi, hz0, hz1, hz2⟩ := info_parts Tryd.info48
    have hi := Lib.hid hi
    clear hO hO1
    go_wp2_with (at_builtin; refine wpList_append_own _ rfl _ _ 37 rfl S 48 i0 (.agg #[.int .u8 0, .int .u8 0, .int .i64 0, .int .i64 0, .int .i64 0, .int .u8 0, .int .i64 0, .int .i64 0, .int .i64 0]) 9 72 Tryd.underlying37 hi.out hz0 hz1 hz2 rfl (by decide) _ _ _ rfl hO2.out ⟨w1.heap.size, 0, none⟩ 1 1 [.int .u8 cv.1, .int .u8 cv.2.1.1, .int .i64 cv.2.1.2.1, .int .i64 cv.2.1.2.2.1, .int .i64 cv.2.1.2.2.2, .int .u8 cv.2.2.1, .int .i64 cv.2.2.2.1, .int .i64 cv.2.2.2.2.1, .int .i64 cv.2.2.2.2.2] rfl rfl hC9.out (by simp [Value.oneCell']) (by unfold maxLen; omega) (by omega) (by simp; omega) ?_; intro v' w2 hown hgrow _)
    have hgA := World.grownBy_alloc w1 (.cells #[.int .u8 cv.1, .int .u8 cv.2.1.1, .int .i64 cv.2.1.2.1, .int .i64 cv.2.1.2.2.1, .int .i64 cv.2.1.2.2.2, .int .u8 cv.2.2.1, .int .i64 cv.2.2.2.1, .int .i64 cv.2.2.2.2.1, .int .i64 cv.2.2.2.2.2] 48)
    have hg2 : w.grownBy w2 (some R) := grown_app (grown_more (grown_more hg hg1) (hgA (some R))) hgrow (fun b hb => by have := (hlt b hb).1; rw [hS.out]; exact this)
    have hR2 : RdK R g c ts k1 w2 := (hR1.kept (hgA none)).keptRow hgrow (fun e => by have := (hlt R e.symm).1; omega) (fun e => by have := (hlt g e.symm).1; omega)
    have hown2 : OwnC w2 S v' (l ++ [cpO cv]) := by
      unfold OwnC
      rw [cpsCells_snoc, List.length_append]
      exact hown
    clear hown hgrow hO2 hC9 hgA hlt
    have M := Lib.hid (may_P 5 38 w2 hE.out hk1 (by decide) hR2)
    obtain ⟨bm, hbm⟩ : ∃ b, mayP ts 5 38 k1 = b := ⟨_, rfl⟩
    rw [hbm] at M
    replace hbm := Lib.hid hbm
    replace hown2 := Lib.hid hown2
    have hRl : leftM R w' = ts.length - k' := leftM_rd hR.out
    (with_reducible refine M.out.mono ?_)
    rintro e w3 ⟨rfl, hR3, hg3, hk3⟩
    clear M
    have hg4 := grown_more hg2 hg3
    have hO4 : OwnC w3 S v' (l ++ [cpO cv]) := World.ownsRow.kept hown2.out hg3 (by
      rcases hv : v'.ownBlock with _ | b
      · exact .inl rfl
      · have := (hown2.out.lt b hv).1
        exact .inr (fun e => by cases e; omega))
    cases bm
    · replace hR3 : RdK R g c ts k1 w3 := hR3
      clear hk3
      have M := Lib.hid (must_P 5 93 w3 hE.out hk1 (by decide) hR3)
      replace hO4 := Lib.hid hO4
      replace hg4 := Lib.hid hg4
      go_wp2_with fail
      (with_reducible refine M.out.mono ?_)
      rintro e w5 ⟨hg5, hT⟩
      clear M
      cases hr2 : mustP ts 5 93 k1 with
      | error j =>
        simp only [hr2] at hT
        obtain ⟨x, hx, rfl⟩ := hT
        replace hx := Lib.hid hx
        have hR' : RES = .error j := by rw [hres.out, hcf.out, hr1.out]; simp [hbm.out, hr2, joinC]
        subst hR'
        clear hr1 hr2 hres hcf
        go_wp2_with fail
        show Q _ _ _
        rw [hQ.out]
        exact ⟨rfl, grown_more hg4.out hg5, x, hx.out, rfl⟩
      | ok y =>
      obtain ⟨un, k2⟩ := y
      simp only [hr2] at hT
      obtain ⟨⟨u, rfl, rfl⟩, hR5, hk5⟩ := hT
      have hR' : RES = .ok (l ++ [cpO cv], k2) := by rw [hres.out, hcf.out, hr1.out]; simp [hbm.out, hr2, joinC]
      subst hR'
      have hO5 : OwnC w5 S v' (l ++ [cpO cv]) := World.ownsRow.kept hO4.out hg5 (by
        rcases hv : v'.ownBlock with _ | b
        · exact .inl rfl
        · have := (hO4.out.lt b hv).1
          exact .inr (fun e => by cases e; omega))
      replace hO5 := Lib.hid hO5
      replace hR5 := Lib.hid hR5
      clear hr1 hr2 hres hcf
      go_wp2_with fail
      show Q _ _ _
      rw [hQ.out]
      go_ret
      exact ⟨grown_more hg4.out hg5, ⟨_, rfl, hO5.out⟩, hR5.out, hk5⟩
    · replace hR3 : RdK R g c ts (k1 + 1) w3 := hR3
      replace hk3 : k1 + 1 < ts.length := hk3
      replace hO4 := Lib.hid hO4
      replace hg4 := Lib.hid hg4
      have hR3' := Lib.hid hR3
      go_wp2_with fail
      go_step3
      refine ⟨rfl, ?_, ?_⟩
      · rw [hJ.out]
        refine ⟨l ++ [cpO cv], v', k1 + 1, f, _, _, _, _, _, _, _, _, _, _, _, _, rfl, hR3'.out, hg4.out, hO4.out, hk3, ?_, by omega, ?_⟩
        · rw [List.length_append]; simp; omega
        · rw [hres.out, hcf.out, hr1.out]
          simp only [hbm.out, if_true]
          cases cmpsF ts f (k1 + 1) with
          | error j => rfl
          | ok y => simp [joinC]
      · rw [leftM_rd hR3'.out, hRl]
        omega
  go_enter Tryd.func91, Tryd.ntmps91
  rw [← hQ]
  go_wp2_with fail
  refine wp_scope_jumps 0 J (fun _ w' => leftM R w') rfl ?_ (fun a w hj => wp_seq (wp_skip (passX a w hj)))
  go_wp2_with fail
  go_step3
  rename_i K hK
  refine hK _ _ (Code.wp_mono (jump_weak fun _ _ hh => hh.1) (passX _ _ ?_))
  rw [hJ]
  refine ⟨[], _, k, ts.length, _, _, _, _, _, _, _, _, _, _, _, _, rfl, h, ⟨rfl, rfl, rfl, Nat.le_refl _, fun _ _ _ => rfl⟩, World.ownsRow_nil _ _ _ _, hk, Nat.zero_le _, by omega, ?_⟩
  rw [← hRES]
  unfold cmpsP
  cases cmpsF ts ts.length k with
  | error j => rfl
  | ok y => rfl
end Go.Proofs.YtkedifhlkiffoaaDoor
