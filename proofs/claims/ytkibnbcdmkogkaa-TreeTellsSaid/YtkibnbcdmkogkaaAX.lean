/-
  TreeTells' walk, ahead of its last line.
-/
import Derived.Test.YtkibnbcdmkogkaaAW
import Derived.Test.YtkibnbcdmkogkaaAT
import Derived.Test.YtkibnbcdmkogkaaAM
namespace Go.Proofs.Ytkibnbcdmkogkaa
open Go.ChangeShapes Go.WideShapes Go.ChangeAt Go.RowKit
set_option linter.unusedVariables false
set_option linter.unusedSimpArgs false
attribute [local go_sem] Oper.semAt_some
/-- What the law reads all along. -/
def TlK (w : World) (a b : Option Addr) (n m c d : Nat) (p q : Int) (L Q : List (Sp × Value)) (t : Tm) (X : World) : Prop := OwK w a b n m c d p q L Q X ∧ TmBox (w.heap.size + 2) t X
section
variable {w : World} {a b : Option Addr} {n m c d : Nat} {p q : Int} {L Q : List (Sp × Value)} {t : Tm} {X : World}
theorem TlK.later {Y : World} (h : TlK w a b n m c d p q L Q t X) (hb : Below X.heap.size X Y) : TlK w a b n m c d p q L Q t Y := ⟨h.1.later hb, h.2.later hb⟩
theorem TlK.cells (h : TlK w a b n m c d p q L Q t X) : X.cell? ⟨w.heap.size, 0, none⟩ = some (.slice a n c) ∧ X.cell? ⟨w.heap.size, 1, none⟩ = some (.int .i64 p) ∧ X.cell? ⟨w.heap.size + 1, 0, none⟩ = some (.slice b m d) ∧ X.cell? ⟨w.heap.size + 1, 1, none⟩ = some (.int .i64 q) ∧
    X.cell? ⟨w.heap.size + 2, 0, none⟩ = some (.int .u8 t.k) ∧ X.cell? ⟨w.heap.size + 2, 1, none⟩ = some (.int .i64 t.n) ∧ X.cell? ⟨w.heap.size + 2, 2, none⟩ = some (.int .i64 t.s) ∧ X.cell? ⟨w.heap.size + 2, 3, none⟩ = some (.int .i64 t.r) :=
  ⟨h.1.1.c0, h.1.1.c1, h.1.2.1.c0, h.1.2.1.c1, h.2.c⟩
/-- With the cells of the step at i. -/
theorem TlK.step {bb o i : Nat} {s : Sp} {v : Value} (h : TlK w (some ⟨bb, o, none⟩) b n m c d p q L Q t X) (hn : L.length = n) (hx : L[i]? = some (s, v)) :
    (X.cell? ⟨w.heap.size, 0, none⟩ = some (.slice (some ⟨bb, o, none⟩) n c) ∧ X.cell? ⟨bb, o + i * 6, none⟩ = some (.bool s.neg) ∧ X.cell? ⟨bb, o + i * 6 + 1, none⟩ = some (.int .i64 s.kind) ∧ X.cell? ⟨bb, o + i * 6 + 2, none⟩ = some (.int .i64 s.min) ∧
      X.cell? ⟨bb, o + i * 6 + 3, none⟩ = some (.int .i64 s.max) ∧ X.cell? ⟨bb, o + i * 6 + 4, none⟩ = some (.bool s.strict) ∧ X.cell? ⟨bb, o + i * 6 + 5, none⟩ = some v) ∧ TlK w (some ⟨bb, o, none⟩) b n m c d p q L Q t X := by
  obtain ⟨b', o', e, z0, z1, z2, z3, z4, z5, -⟩ := spsL_at h.1.2.2.1 hn hx
  cases e
  exact ⟨⟨h.1.1.c0, z0, z1, z2, z3, z4, z5⟩, h⟩
end
/-- What own told. -/
def OwnO (n : Nat) (L : List (Sp × Value)) (X : World) (a7 : Option Addr) (c7 : Nat) : Prop := ∃ L' : List (Sp × Value), SpsL X (.slice a7 n c7) L' ∧ L'.map (·.1) = L.map (·.1)
theorem OwnO.later {n : Nat} {L : List (Sp × Value)} {X Y : World} {a7 : Option Addr} {c7 : Nat} (h : OwnO n L X a7 c7) (hb : Below X.heap.size X Y) : OwnO n L Y a7 c7 := by
  obtain ⟨L', h1, h2⟩ := h; exact ⟨L', h1.later hb, h2⟩
/-- The first k have come up, and these. -/
def fsL (n k : Nat) (ex : List Nat) : Array Bool := ((List.range n).map fun i => decide (i < k) || ex.contains i).toArray
theorem any_fork {P : Program} {md : Region.Mode} {ops : Array Oper} {Q : Exit → Act → World → Prop} {fu f1 : Nat} {l : Array Bool} {a : Act} {w : World} (is : List Nat) (hr : Region.ready md ops l = is) (hne : is ≠ []) (hs : is.all (fun i => decide (i < ops.size)) = true) (hf : fu = f1 + 1)
    (h : ∀ i ∈ is, wpSeg P ops Q (wpAny P md ops Q f1 (l.setIfInBounds i true)) (atL ops [i]) a w) : wpAny P md ops Q fu l a w := by
  subst hf
  refine ⟨fun h0 => absurd (hr.symm.trans h0) hne, fun i hi => ?_⟩
  rw [hr] at hi
  exact seg_op (of_decide_eq_true (List.all_eq_true.1 hs i hi)) (h i hi)
set_option maxRecDepth 100000 in
set_option maxHeartbeats 40000000 in
theorem tellsWalk (hwk : WakesOkA) (a b : Option Addr) (n m c d : Nat) (L Q : List (Sp × Value)) (p q : Int) (t : Tm) (w : World) (hn : L.length = n) (hm : Q.length = m) (hb1 : n ≤ 9223372036854775807) (hb2 : m ≤ 9223372036854775807)
    (h : SpsL w (.slice a n c) L) (hQ : SpsL w (.slice b m d) Q) (hqL : OpsOk L) :
    Calls Try.prog 3 #[ptV (.slice a n c) p, ptV (.slice b m d) q, tmV t] w fun e w' => e = .returned (.bool true) ∧ Below w.heap.size w w' := by
  have hb : Below w.heap.size w (((w.alloc (.cells #[.slice a n c, .int .i64 p] 24)).alloc (.cells #[.slice b m d, .int .i64 q] 24)).alloc (.cells #[.int .u8 t.k, .int .i64 t.n, .int .i64 t.s, .int .i64 t.r] 26)) := kept_alloc (below_two w (.cells #[.slice a n c, .int .i64 p] 24) (.cells #[.slice b m d, .int .i64 q] 24)) (.cells #[.int .u8 t.k, .int .i64 t.n, .int .i64 t.s, .int .i64 t.r] 26)
  have hP : PtBox w.heap.size (.slice a n c) p (((w.alloc (.cells #[.slice a n c, .int .i64 p] 24)).alloc (.cells #[.slice b m d, .int .i64 q] 24)).alloc (.cells #[.int .u8 t.k, .int .i64 t.n, .int .i64 t.s, .int .i64 t.r] 26)) := ((PtBox.new w _ _).later (kept_new _ _)).later (kept_new _ _)
  have hP2 := (PtBox.new (w.alloc (.cells #[.slice a n c, .int .i64 p] 24)) (.slice b m d) q).later (kept_new _ (.cells #[.int .u8 t.k, .int .i64 t.n, .int .i64 t.s, .int .i64 t.r] 26))
  have hT := TmBox.new ((w.alloc (.cells #[.slice a n c, .int .i64 p] 24)).alloc (.cells #[.slice b m d, .int .i64 q] 24)) t
  rw [World.size_alloc] at hP2
  rw [World.size_alloc, World.size_alloc] at hT
  have h0 := h.later hb
  have hQ0 := hQ.later hb
  clear h hQ
  go_enter Try.func3, Try.ntmps3
  obtain ⟨W0, hW0⟩ : ∃ W0, (((w.alloc (.cells #[.slice a n c, .int .i64 p] 24)).alloc (.cells #[.slice b m d, .int .i64 q] 24)).alloc (.cells #[.int .u8 t.k, .int .i64 t.n, .int .i64 t.s, .int .i64 t.r] 26)) = W0 := ⟨_, rfl⟩
  rw [hW0] at hP hP2 h0 hQ0 hb hT
  have hI0 := Lib.hid (show TlK w a b n m c d p q L Q t W0 from ⟨⟨hP, hP2, h0, hQ0, hb⟩, hT⟩)
  have k0 := hP.c0
  have k1 := hP.c1
  have hG := Lib.hid (great_W (v := .slice a n c) p W0 (by unfold maxLen; omega) h0)
  have hNl : Hid ((L.map (·.1)).length = n) := by show _ = _; simp [hn]
  have hMl : Hid ((Q.map (·.1)).length = m) := by show _ = _; simp [hm]
  replace hn := Lib.hid hn
  replace hm := Lib.hid hm
  clear hP hP2 h0 hQ0 hb
  obtain ⟨gp, hgp⟩ : ∃ g, great (L.map (·.1)) = g := ⟨_, rfl⟩
  rw [hgp] at hG
  replace hgp := Lib.hid hgp
  go_wp2_with fail
  (with_reducible refine hG.out.mono ?_)
  rintro e w1 ⟨rfl, q1⟩
  clear hG k0 k1
  have hI1 := Lib.hid (hI0.out.later q1)
  clear hI0 hW0 q1
  have k0 := hI1.out.1.1.c0
  have k1 := hI1.out.1.1.c1
  have k2 := hI1.out.1.2.1.c0
  have k3 := hI1.out.1.2.1.c1
  cases gp
  case true =>
    go_wp2_with ((with_reducible refine (hwk _).mono ?_); rintro e w2 ⟨rfl, hb2⟩)
    go_ret
    exact ⟨rfl, kept_trans hI1.out.1.2.2.2.2 hb2⟩
  obtain ⟨hS, hn40, hL20⟩ := Small.of_great hgp.out
  rw [hNl.out] at hn40
  replace hS := Lib.hid hS
  replace hL20 := Lib.hid hL20
  have hG := Lib.hid (great_W (v := .slice b m d) q w1 (by unfold maxLen; rw [hm.out]; omega) hI1.out.1.2.2.2.1)
  obtain ⟨gq, hgq⟩ : ∃ g, great (Q.map (·.1)) = g := ⟨_, rfl⟩
  rw [hgq] at hG
  replace hgq := Lib.hid hgq
  go_wp2_with fail
  (with_reducible refine hG.out.mono ?_)
  rintro e w2 ⟨rfl, q2⟩
  clear hG k0 k1 k2 k3
  have hI2 := Lib.hid (hI1.out.later q2)
  clear hI1 q2
  have k0 := hI2.out.1.1.c0
  have k1 := hI2.out.1.1.c1
  cases gq
  case true =>
    go_wp2_with ((with_reducible refine (hwk _).mono ?_); rintro e w2 ⟨rfl, hb2⟩)
    go_ret
    exact ⟨rfl, kept_trans hI2.out.1.2.2.2.2 hb2⟩
  obtain ⟨hSQ, hm40, hQ20⟩ := Small.of_great hgq.out
  rw [hMl.out] at hm40
  replace hSQ := Lib.hid hSQ
  replace hQ20 := Lib.hid hQ20
  clear hgp hgq
  obtain ⟨A, hA⟩ : ∃ z, leastP (L.map (·.1)) = z := ⟨_, rfl⟩
  obtain ⟨B, hB⟩ : ∃ z, mostP (L.map (·.1)) = z := ⟨_, rfl⟩
  have hL1 := Lib.hid (long_V p hS.out w2 hI2.out.1.2.2.1)
  rw [hA, hB] at hL1
  go_wp2_with fail
  (with_reducible refine hL1.out.mono ?_)
  rintro e w3 ⟨rfl, hb3⟩
  clear hL1 k0 k1
  have hI3 := Lib.hid (hI2.out.later hb3)
  have k0 := hI3.out.1.1.c0
  have k1 := hI3.out.1.1.c1
  have hL2 := Lib.hid (refLong_V p hS.out w3 hI3.out.1.2.2.1)
  rw [hA, hB] at hL2
  go_wp2_with fail
  (with_reducible refine hL2.out.mono ?_)
  rintro e w4 ⟨rfl, hb4⟩
  clear hL2 k0 k1
  have hI4 := Lib.hid (hI3.out.later hb4)
  clear hI2 hI3 hb3 hb4 hA hB
  go_wp2_with fail
  go_loopw [11] (fun t' wt => ∃ i : Nat, i ≤ n ∧ t' = .int .i64 i ∧ Hid (TlK w a b n m c d p q L Q t wt)) (fun t' _ => n - (intOf t').toNat)
  case atStart => exact ⟨0, Nat.zero_le _, rfl, hI4.out⟩
  case round =>
    clear hI4
    obtain ⟨i, hi, rfl, hK⟩ := hrel
    have k0 := hK.out.1.1.c0
    by_cases hlt : i < n
    · have hlti : (i : Int) < n := by omega
      obtain ⟨⟨s, us⟩, hx⟩ := sps_i (L := L) (i := i) (by rw [hn.out]; exact hlt)
      obtain ⟨b3, o3, rfl, z0, z1, z2, z3, z4, z5, hcs⟩ := spsL_at hK.out.1.2.2.1 hn.out hx
      clear z0 z1 z2 z3 z4 z5
      obtain ⟨ms, hms⟩ : ∃ m, s.cs.length = m := ⟨_, rfl⟩
      obtain ⟨a6, c6, rfl⟩ := cps_lit hcs hms
      have hms20 : ms ≤ 20 := by rw [← hms]; exact hL20.out s (List.mem_of_getElem? (map_fst hx))
      go_upto_region 8 with fail
      have C1 : Hid (∀ X, TlK w (some ⟨b3, o3, none⟩) b n m c d p q L Q t X ∧ Below wr.heap.size wr X → Calls Try.prog 13 #[spV s (.slice a6 ms c6)] X fun e Y => ∃ v, e = .returned v ∧ IntsAt Y v (setOf (namesC s.cs)) ∧ (TlK w (some ⟨b3, o3, none⟩) b n m c d p q L Q t Y ∧ Below wr.heap.size wr Y) ∧ Below X.heap.size X Y) := by
        show ∀ _, _
        intro X hX
        exact (asked_V s (by rw [hms]; omega) X (hcs.later hX.2)).mono fun e Y ⟨v, he, hr, hb⟩ => ⟨v, he, IntsAt.of_row hr, ⟨hX.1.later hb, kept_trans hX.2 hb⟩, hb⟩
      have C2 : Hid (∀ X, TlK w (some ⟨b3, o3, none⟩) b n m c d p q L Q t X ∧ Below wr.heap.size wr X → Calls Try.prog 14 #[spV s (.slice a6 ms c6)] X fun e Y => ∃ v, e = .returned v ∧ IntsAt Y v (setOf (namesC s.cs)) ∧ (TlK w (some ⟨b3, o3, none⟩) b n m c d p q L Q t Y ∧ Below wr.heap.size wr Y) ∧ Below X.heap.size X Y) := by
        show ∀ _, _
        intro X hX
        exact (refAsked_L s a6 ms c6 X hms20 hms (hcs.later hX.2)).mono fun e Y ⟨v, he, hr, hb⟩ => ⟨v, he, hr, ⟨hX.1.later hb, kept_trans hX.2 hb⟩, hb⟩
      have hsl : (setOf (namesC s.cs)).length ≤ 100 := by
        have h1 := setOf_len (namesC s.cs)
        have h2 := namesC_len s.cs
        omega
      have C3 : Hid (∀ X u v, IntsAt X u (setOf (namesC s.cs)) → IntsAt X v (setOf (namesC s.cs)) → TlK w (some ⟨b3, o3, none⟩) b n m c d p q L Q t X ∧ Below wr.heap.size wr X → Calls Try.prog 12 #[u, v] X fun e Y => e = .returned (.bool true) ∧ (TlK w (some ⟨b3, o3, none⟩) b n m c d p q L Q t Y ∧ Below wr.heap.size wr Y) ∧ Below X.heap.size X Y) := by
        show ∀ _ _ _, _
        intro X u v h1 h2 hX
        exact (ints_any h1 h2 (Nat.le_trans hsl (by omega))).mono fun e Y ⟨he, hb⟩ => ⟨by rw [he]; simp, ⟨hX.1.later hb, kept_trans hX.2 hb⟩, hb⟩
      have hall := Lib.hid (fun X (h : TlK w (some ⟨b3, o3, none⟩) b n m c d p q L Q t X ∧ Below wr.heap.size wr X) => And.intro (h.1.step hn.out hx).1 h)
      have hKd : TlK w (some ⟨b3, o3, none⟩) b n m c d p q L Q t wr.drew ∧ Below wr.heap.size wr wr.drew := ⟨hK.out.later (Below.refl _ _).drew, (Below.refl _ _).drew⟩
      clear hx hcs k0 hms hsl hK
      go_cut [49] from 29 to 49 (fun t' wx => t' = .bool false ∧ TlK w (some ⟨b3, o3, none⟩) b n m c d p q L Q t wx)
      case first =>
        go_region_held3 (fun X => (X.cell? ⟨w.heap.size, 0, none⟩ = some (.slice (some ⟨b3, o3, none⟩) n c) ∧ X.cell? ⟨b3, o3 + i * 6, none⟩ = some (.bool s.neg) ∧ X.cell? ⟨b3, o3 + i * 6 + 1, none⟩ = some (.int .i64 s.kind) ∧ X.cell? ⟨b3, o3 + i * 6 + 2, none⟩ = some (.int .i64 s.min) ∧
      X.cell? ⟨b3, o3 + i * 6 + 3, none⟩ = some (.int .i64 s.max) ∧ X.cell? ⟨b3, o3 + i * 6 + 4, none⟩ = some (.bool s.strict) ∧ X.cell? ⟨b3, o3 + i * 6 + 5, none⟩ = some (.slice a6 ms c6)) ∧ (TlK w (some ⟨b3, o3, none⟩) b n m c d p q L Q t X ∧ Below wr.heap.size wr X)) (first | exact hall.out _ hKd | (try go_split_ands); exact hall.out _ ⟨‹TlK w (some ⟨b3, o3, none⟩) b n m c d p q L Q t _›, ‹Below wr.heap.size wr _›⟩) (first
          | (go_at_call 13; (try go_split_ands); (with_reducible refine (C1.out _ ⟨‹TlK w (some ⟨b3, o3, none⟩) b n m c d p q L Q t _›, ‹Below wr.heap.size wr _›⟩).mono ?_); rintro e X ⟨v1, rfl, hv1, ⟨hK1, hB1⟩, hb1⟩)
          | (go_at_call 14; (try go_split_ands); (with_reducible refine (C2.out _ ⟨‹TlK w (some ⟨b3, o3, none⟩) b n m c d p q L Q t _›, ‹Below wr.heap.size wr _›⟩).mono ?_); rintro e X ⟨v2, rfl, hv2, ⟨hK2, hB2⟩, hb2⟩)
          | (go_at_call 12; (try go_split_ands); (with_reducible refine (C3.out _ _ _ (hv1.later hb2) hv2 ⟨hK2, hB2⟩).mono ?_); rintro e X ⟨rfl, ⟨hK3, hB3⟩, hb3⟩)
          | fail)
        all_goals (go_wp2_with fail; go_meet; exact ⟨rfl, hK3⟩)
      case rest =>
        obtain ⟨rfl, hKc⟩ := hcut
        replace hKc := Lib.hid hKc
        clear C1 C2 C3 hall hKd
        go_wp2_with fail
        exact ⟨⟨i + 1, by omega, by go_num, hKc.out⟩, by simp [intOf]; omega⟩
    · obtain rfl : i = n := by omega
      have hlti : ¬ (i : Int) < i := by omega
      go_wp2_with fail
      obtain ⟨R1, hR1⟩ : ∃ r, rightP (L.map (·.1)) p = r := ⟨_, rfl⟩
      obtain ⟨Z, hZ⟩ : ∃ z, sizeP (L.map (·.1)) = z := ⟨_, rfl⟩
      obtain ⟨SM, hSM⟩ : ∃ r, decide (L.map (·.1) = Q.map (·.1) ∧ p = q) = r := ⟨_, rfl⟩
      have D1 : Hid (∀ X, TlK w a b i m c d p q L Q t X → Calls Try.prog 15 #[.agg #[.slice a i c, .int .i64 p]] X fun e Y => e = .returned (.bool R1) ∧ TlK w a b i m c d p q L Q t Y ∧ Below X.heap.size X Y) := by
        show ∀ _, _
        exact fun X hX => (right_V p hS.out.short hqL X hX.1.2.2.1).mono fun e Y ⟨he, hb⟩ => ⟨by rw [he, hR1], hX.later hb, hb⟩
      have D3 : Hid (∀ X, TlK w a b i m c d p q L Q t X → Calls Try.prog 16 #[.agg #[.slice a i c, .int .i64 p]] X fun e Y => e = .returned (.bool R1) ∧ TlK w a b i m c d p q L Q t Y ∧ Below X.heap.size X Y) := by
        show ∀ _, _
        exact fun X hX => (refRight_V p hS.out.short X hX.1.2.2.1).mono fun e Y ⟨he, hb⟩ => ⟨by rw [he, hR1], hX.later hb, hb⟩
      have D7 : Hid (∀ X, TlK w a b i m c d p q L Q t X → Calls Try.prog 17 #[.agg #[.int .u8 t.k, .int .i64 t.n, .int .i64 t.s, .int .i64 t.r]] X fun e Y => ∃ v, e = .returned v ∧ IntsAt Y v (namesT t) ∧ TlK w a b i m c d p q L Q t Y ∧ Below X.heap.size X Y) := by
        show ∀ _, _
        exact fun X hX => (names_any t X).mono fun e Y ⟨v, he, hr, hb⟩ => ⟨v, he, IntsAt.of_row hr, hX.later hb, hb⟩
      have D9 : Hid (∀ X, TlK w a b i m c d p q L Q t X → Calls Try.prog 18 #[.agg #[.int .u8 t.k, .int .i64 t.n, .int .i64 t.s, .int .i64 t.r]] X fun e Y => ∃ v, e = .returned v ∧ IntsAt Y v (namesT t) ∧ TlK w a b i m c d p q L Q t Y ∧ Below X.heap.size X Y) := by
        show ∀ _, _
        exact fun X hX => (refNames_any t X).mono fun e Y ⟨v, he, hr, hb⟩ => ⟨v, he, IntsAt.of_row hr, hX.later hb, hb⟩
      have D10 : Hid (∀ X u v, IntsAt X u (namesT t) → IntsAt X v (namesT t) → TlK w a b i m c d p q L Q t X → Calls Try.prog 12 #[u, v] X fun e Y => e = .returned (.bool true) ∧ TlK w a b i m c d p q L Q t Y ∧ Below X.heap.size X Y) := by
        show ∀ _, _
        exact fun X u v h1 h2 hX => (ints_any h1 h2 (Nat.le_trans (names_le t) (by omega))).mono fun e Y ⟨he, hb⟩ => ⟨by rw [he]; simp, hX.later hb, hb⟩
      have D14 : Hid (∀ X, TlK w a b i m c d p q L Q t X → Calls Try.prog 19 #[.agg #[.slice a i c, .int .i64 p]] X fun e Y => ∃ v, e = .returned v ∧ IntsAt Y v (posP (L.map (·.1))) ∧ TlK w a b i m c d p q L Q t Y ∧ Below X.heap.size X Y) := by
        show ∀ _, _
        exact fun X hX => (positive_V p hS.out X hX.1.2.2.1).mono fun e Y ⟨v, he, hr, hb⟩ => ⟨v, he, IntsAt.of_row hr, hX.later hb, hb⟩
      have D16 : Hid (∀ X, TlK w a b i m c d p q L Q t X → Calls Try.prog 20 #[.agg #[.slice a i c, .int .i64 p]] X fun e Y => ∃ v, e = .returned v ∧ IntsAt Y v (posP (L.map (·.1))) ∧ TlK w a b i m c d p q L Q t Y ∧ Below X.heap.size X Y) := by
        show ∀ _, _
        exact fun X hX => (refPositive_L a i c p L (by omega) X hn.out hX.1.2.2.1).mono fun e Y ⟨v, he, hr, hb⟩ => ⟨v, he, IntsAt.of_row hr, hX.later hb, hb⟩
      have hpl : (posP (L.map (·.1))).length ≤ 140737488351232 := by
        have := posF_len' (L.map (·.1)) 0
        rw [hNl.out] at this
        unfold posP
        omega
      have D17 : Hid (∀ X u v, IntsAt X u (posP (L.map (·.1))) → IntsAt X v (posP (L.map (·.1))) → TlK w a b i m c d p q L Q t X → Calls Try.prog 12 #[u, v] X fun e Y => e = .returned (.bool true) ∧ TlK w a b i m c d p q L Q t Y ∧ Below X.heap.size X Y) := by
        show ∀ _, _
        exact fun X u v h1 h2 hX => (ints_any h1 h2 hpl).mono fun e Y ⟨he, hb⟩ => ⟨by rw [he]; simp, hX.later hb, hb⟩
      have D31 : Hid (∀ X, TlK w a b i m c d p q L Q t X → Calls Try.prog 21 #[.agg #[.slice a i c, .int .i64 p]] X fun e Y => e = .returned (.int .i64 Z) ∧ TlK w a b i m c d p q L Q t Y ∧ Below X.heap.size X Y) := by
        show ∀ _, _
        exact fun X hX => (size_V p hS.out X hX.1.2.2.1).mono fun e Y ⟨he, hb⟩ => ⟨by rw [he, hZ], hX.later hb, hb⟩
      have D33 : Hid (∀ X, TlK w a b i m c d p q L Q t X → Calls Try.prog 22 #[.agg #[.slice a i c, .int .i64 p]] X fun e Y => e = .returned (.int .i64 Z) ∧ TlK w a b i m c d p q L Q t Y ∧ Below X.heap.size X Y) := by
        show ∀ _, _
        exact fun X hX => (refSize_V p hS.out X hX.1.2.2.1).mono fun e Y ⟨he, hb⟩ => ⟨by rw [he, hZ], hX.later hb, hb⟩
      have D39 : Hid (∀ X, TlK w a b i m c d p q L Q t X → Calls Try.prog 23 #[.agg #[.slice a i c, .int .i64 p], .agg #[.slice b m d, .int .i64 q]] X fun e Y => e = .returned (.bool SM) ∧ TlK w a b i m c d p q L Q t Y ∧ Below X.heap.size X Y) := by
        show ∀ _, _
        exact fun X hX => (same_V p q hS.out.short hSQ.out.short X hX.1.2.2.1 hX.1.2.2.2.1).mono fun e Y ⟨he, hb⟩ => ⟨by rw [he, hSM], hX.later hb, hb⟩
      have D42 : Hid (∀ X, TlK w a b i m c d p q L Q t X → Calls Try.prog 24 #[.agg #[.slice a i c, .int .i64 p], .agg #[.slice b m d, .int .i64 q]] X fun e Y => e = .returned (.bool SM) ∧ TlK w a b i m c d p q L Q t Y ∧ Below X.heap.size X Y) := by
        show ∀ _, _
        exact fun X hX => (refSame_V p q hS.out.short hSQ.out.short X hX.1.2.2.1 hX.1.2.2.2.1).mono fun e Y ⟨he, hb⟩ => ⟨by rw [he, hSM], hX.later hb, hb⟩
      have D47 : Hid (∀ X, TlK w a b i m c d p q L Q t X → Calls Try.prog 25 #[.agg #[.slice a i c, .int .i64 p]] X fun e Y => ∃ a7 c7, e = .returned (.agg #[.slice a7 i c7, .int .i64 p]) ∧ OwnO i L Y a7 c7 ∧ TlK w a b i m c d p q L Q t Y ∧ Below X.heap.size X Y) := by
        show ∀ _, _
        intro X hX
        refine (own_V p hS.out.fits X hX.1.2.2.1).mono fun e Y ⟨v, L', he, hO, hm', hb⟩ => ?_
        have hl' : L'.length = i := by have := congrArg List.length hm'; simpa [hn.out] using this
        obtain ⟨a7, c7, rfl, -⟩ := cells_of_row hO.1
        rw [hl'] at he hO
        exact ⟨a7, c7, he, ⟨L', hO.sps, hm'⟩, hX.later hb, hb⟩
      have D49 : Hid (∀ X a7 c7, OwnO i L X a7 c7 → TlK w a b i m c d p q L Q t X → Calls Try.prog 24 #[.agg #[.slice a7 i c7, .int .i64 p], .agg #[.slice a i c, .int .i64 p]] X fun e Y => e = .returned (.bool true) ∧ TlK w a b i m c d p q L Q t Y ∧ Below X.heap.size X Y) := by
        show ∀ _, _
        intro X a7 c7 hO hX
        obtain ⟨L', h1, h2⟩ := hO
        have hS2 : Small (L'.map (·.1)) := by rw [h2]; exact hS.out
        exact (refSame_V p p hS2.short hS.out.short X h1 hX.1.2.2.1).mono fun e Y ⟨he, hb⟩ => ⟨by rw [he, h2]; simp, hX.later hb, hb⟩
      have D52 : Hid (∀ X, TlK w a b i m c d p q L Q t X → Calls Try.prog 9 #[] X fun e Y => e = .returned (.bool true) ∧ TlK w a b i m c d p q L Q t Y ∧ Below X.heap.size X Y) := by
        show ∀ _, _
        exact fun X hX => (hwk X).mono fun e Y ⟨he, hb⟩ => ⟨he, hX.later hb, hb⟩
      clear hR1 hZ hSM hpl k0
      refine wp_region_any (by kernel_rfl) ?_
      try dsimp only [List.append]
      generalize hops : (List.toArray _ : Array Oper) = ops
      generalize hQQ : Exit.then _ _ = QQ
      have T49 : ∀ (s6 s11 s12 s13 s14 s15 s16 s17 s18 s19 s20 s21 s22 s23 s24 s25 s26 s27 s28 s29 s30 s31 s32 s33 s34 s35 s36 s37 s38 s39 s40 s41 s42 s43 s44 s45 s46 s47 s48 s49 s50 s51 s52 s53 s54 s55 s56 s57 s58 s59 s60 s61 s62 s63 s64 s65 s66 s67 s68 s69 s70 s71 s72 s73 s74 s75 s76 s77 s78 s79 s80 s81 s82 s83 s84 s85 s86 s87 s88 s89 s90 s91 s92 s93 s94 s96 : Value) (a7 : Option Addr) (c7 : Nat) (X : World), TlK w a b i m c d p q L Q t X → OwnO i L X a7 c7 → wpAny Try.prog .any ops QQ 6 (fsL 55 49 []) { tmps := #[ptV (.slice a i c) p, ptV (.slice b m d) q, tmV t, .pointer (some ⟨w.heap.size, 0, none⟩), .pointer (some ⟨w.heap.size + 1, 0, none⟩), .pointer (some ⟨w.heap.size + 1 + 1, 0, none⟩), s6, .int .i64 A, .int .i64 B, .int .i64 A, .int .i64 B, s11, s12, s13, s14, s15, s16, s17, s18, s19, s20, s21, s22, s23, s24, s25, s26, s27, s28, s29, s30, s31, s32, s33, s34, s35, s36, s37, s38, s39, s40, s41, s42, s43, s44, s45, s46, s47, s48, s49, s50, s51, s52, s53, s54, s55, s56, s57, s58, s59, s60, s61, s62, s63, s64, s65, s66, s67, s68, s69, s70, s71, s72, s73, s74, s75, s76, s77, s78, s79, s80, s81, s82, s83, s84, s85, s86, s87, s88, s89, s90, s91, s92, s93, s94, .bool true, s96, .agg #[.slice a7 i c7, .int .i64 p], .agg #[.slice a i c, .int .i64 p], undef, undef, undef, undef, undef], defers := [] } X := by
        as_aux_lemma =>
        intro s6 s11 s12 s13 s14 s15 s16 s17 s18 s19 s20 s21 s22 s23 s24 s25 s26 s27 s28 s29 s30 s31 s32 s33 s34 s35 s36 s37 s38 s39 s40 s41 s42 s43 s44 s45 s46 s47 s48 s49 s50 s51 s52 s53 s54 s55 s56 s57 s58 s59 s60 s61 s62 s63 s64 s65 s66 s67 s68 s69 s70 s71 s72 s73 s74 s75 s76 s77 s78 s79 s80 s81 s82 s83 s84 s85 s86 s87 s88 s89 s90 s91 s92 s93 s94 s96 a7 c7 X hW' f47
        obtain ⟨z0, z1, z2, z3, z4, z5, z6, z7⟩ := hW'.cells
        refine any_seg (fu := 0) (l2 := fsL 55 55 []) [49, 50, 51, 52, 53, 54] (by rfl) (by rw [← hops]; kernel_rfl) ?_
        obtain ⟨lz, hlz⟩ : ∃ l, atL ops [49, 50, 51, 52, 53, 54] = l := ⟨_, rfl⟩
        rw [hlz]
        rw [← hops] at hlz
        simp only [atL, List.filterMap_cons, List.filterMap_nil, List.getElem?_toArray, List.getElem?_cons_succ, List.getElem?_cons_zero] at hlz
        subst hlz
        refine wpSeg_want (by rw [← hops]; kernel_rfl) (fun K' hK => ?_)
        go_simp
        refine (D49.out _ _ _ f47 hW').mono ?_
        rintro e Xa ⟨rfl, hW', hb⟩
        dsimp only
        refine hK _ _ ?_
        clear hK K'
        (try simp only [Act.put, List.setIfInBounds_toArray, List.set_cons_zero, List.set_cons_succ])
        clear z0 z1 z2 z3 z4 z5 z6 z7
        obtain ⟨z0, z1, z2, z3, z4, z5, z6, z7⟩ := hW'.cells
        refine wpSeg_want (by rfl) (fun K' hK => ?_)
        go_simp
        refine hK _ _ ?_
        clear hK K'
        (try simp only [Act.put, List.setIfInBounds_toArray, List.set_cons_zero, List.set_cons_succ])
        refine wpSeg_want (by rfl) (fun K' hK => ?_)
        go_simp
        refine hK _ _ ?_
        clear hK K'
        (try simp only [Act.put, List.setIfInBounds_toArray, List.set_cons_zero, List.set_cons_succ])
        refine wpSeg_want (by rw [← hops]; kernel_rfl) (fun K' hK => ?_)
        go_simp
        refine (D52.out _ hW').mono ?_
        rintro e Xa ⟨rfl, hW', hb⟩
        dsimp only
        refine hK _ _ ?_
        clear hK K'
        (try simp only [Act.put, List.setIfInBounds_toArray, List.set_cons_zero, List.set_cons_succ])
        clear z0 z1 z2 z3 z4 z5 z6 z7
        obtain ⟨z0, z1, z2, z3, z4, z5, z6, z7⟩ := hW'.cells
        refine wpSeg_want (by rfl) (fun K' hK => ?_)
        go_simp
        refine hK _ _ ?_
        clear hK K'
        (try simp only [Act.put, List.setIfInBounds_toArray, List.set_cons_zero, List.set_cons_succ])
        refine wpSeg_want (by rfl) (fun K' hK => ?_)
        go_simp
        refine hK _ _ ?_
        clear hK K'
        (try simp only [Act.put, List.setIfInBounds_toArray, List.set_cons_zero, List.set_cons_succ])
        show wpAny _ _ _ _ _ _ _ _
        refine any_end (by rw [← hops]; kernel_rfl) ?_
        rw [← hQQ]
        go_wp2
        go_ret
        exact ⟨rfl, hW'.1.2.2.2.2⟩
      have T47_48 : ∀ (s6 s11 s12 s13 s14 s15 s16 s17 s18 s19 s20 s21 s22 s23 s24 s25 s26 s27 s28 s29 s30 s31 s32 s33 s34 s35 s36 s37 s38 s39 s40 s41 s42 s43 s44 s45 s46 s47 s48 s49 s50 s51 s52 s53 s54 s55 s56 s57 s58 s59 s60 s61 s62 s63 s64 s65 s66 s67 s68 s69 s70 s71 s72 s73 s74 s75 s76 s77 s78 s79 s80 s81 s82 s83 s84 s85 s86 s87 s88 s89 s90 s91 s92 s93 s94 : Value) (X : World), TlK w a b i m c d p q L Q t X → wpAny Try.prog .any ops QQ 7 (fsL 55 47 [48]) { tmps := #[ptV (.slice a i c) p, ptV (.slice b m d) q, tmV t, .pointer (some ⟨w.heap.size, 0, none⟩), .pointer (some ⟨w.heap.size + 1, 0, none⟩), .pointer (some ⟨w.heap.size + 1 + 1, 0, none⟩), s6, .int .i64 A, .int .i64 B, .int .i64 A, .int .i64 B, s11, s12, s13, s14, s15, s16, s17, s18, s19, s20, s21, s22, s23, s24, s25, s26, s27, s28, s29, s30, s31, s32, s33, s34, s35, s36, s37, s38, s39, s40, s41, s42, s43, s44, s45, s46, s47, s48, s49, s50, s51, s52, s53, s54, s55, s56, s57, s58, s59, s60, s61, s62, s63, s64, s65, s66, s67, s68, s69, s70, s71, s72, s73, s74, s75, s76, s77, s78, s79, s80, s81, s82, s83, s84, s85, s86, s87, s88, s89, s90, s91, s92, s93, s94, .bool true, .agg #[.slice a i c, .int .i64 p], undef, .agg #[.slice a i c, .int .i64 p], undef, undef, undef, undef, undef], defers := [] } X := by
        as_aux_lemma =>
        intro s6 s11 s12 s13 s14 s15 s16 s17 s18 s19 s20 s21 s22 s23 s24 s25 s26 s27 s28 s29 s30 s31 s32 s33 s34 s35 s36 s37 s38 s39 s40 s41 s42 s43 s44 s45 s46 s47 s48 s49 s50 s51 s52 s53 s54 s55 s56 s57 s58 s59 s60 s61 s62 s63 s64 s65 s66 s67 s68 s69 s70 s71 s72 s73 s74 s75 s76 s77 s78 s79 s80 s81 s82 s83 s84 s85 s86 s87 s88 s89 s90 s91 s92 s93 s94 X hW'
        obtain ⟨z0, z1, z2, z3, z4, z5, z6, z7⟩ := hW'.cells
        refine any_seg (fu := 6) (l2 := fsL 55 49 []) [47] (by rfl) (by rw [← hops]; kernel_rfl) ?_
        obtain ⟨lz, hlz⟩ : ∃ l, atL ops [47] = l := ⟨_, rfl⟩
        rw [hlz]
        rw [← hops] at hlz
        simp only [atL, List.filterMap_cons, List.filterMap_nil, List.getElem?_toArray, List.getElem?_cons_succ, List.getElem?_cons_zero] at hlz
        subst hlz
        refine wpSeg_want (by rw [← hops]; kernel_rfl) (fun K' hK => ?_)
        go_simp
        refine (D47.out _ hW').mono ?_
        rintro e Xa ⟨a7, c7, rfl, f47, hW', hb⟩
        dsimp only
        refine hK _ _ ?_
        clear hK K'
        (try simp only [Act.put, List.setIfInBounds_toArray, List.set_cons_zero, List.set_cons_succ])
        clear z0 z1 z2 z3 z4 z5 z6 z7
        obtain ⟨z0, z1, z2, z3, z4, z5, z6, z7⟩ := hW'.cells
        show wpAny _ _ _ _ _ _ _ _
        exact T49 _ _ _ _ _ _ _ _ _ _ _ _ _ _ _ _ _ _ _ _ _ _ _ _ _ _ _ _ _ _ _ _ _ _ _ _ _ _ _ _ _ _ _ _ _ _ _ _ _ _ _ _ _ _ _ _ _ _ _ _ _ _ _ _ _ _ _ _ _ _ _ _ _ _ _ _ _ _ _ _ _ _ _ _ _ _ _ _ _ hW' f47
      have T48 : ∀ (s6 s11 s12 s13 s14 s15 s16 s17 s18 s19 s20 s21 s22 s23 s24 s25 s26 s27 s28 s29 s30 s31 s32 s33 s34 s35 s36 s37 s38 s39 s40 s41 s42 s43 s44 s45 s46 s47 s48 s49 s50 s51 s52 s53 s54 s55 s56 s57 s58 s59 s60 s61 s62 s63 s64 s65 s66 s67 s68 s69 s70 s71 s72 s73 s74 s75 s76 s77 s78 s79 s80 s81 s82 s83 s84 s85 s86 s87 s88 s89 s90 s91 s92 s93 s94 s96 : Value) (a7 : Option Addr) (c7 : Nat) (X : World), TlK w a b i m c d p q L Q t X → OwnO i L X a7 c7 → wpAny Try.prog .any ops QQ 7 (fsL 55 48 []) { tmps := #[ptV (.slice a i c) p, ptV (.slice b m d) q, tmV t, .pointer (some ⟨w.heap.size, 0, none⟩), .pointer (some ⟨w.heap.size + 1, 0, none⟩), .pointer (some ⟨w.heap.size + 1 + 1, 0, none⟩), s6, .int .i64 A, .int .i64 B, .int .i64 A, .int .i64 B, s11, s12, s13, s14, s15, s16, s17, s18, s19, s20, s21, s22, s23, s24, s25, s26, s27, s28, s29, s30, s31, s32, s33, s34, s35, s36, s37, s38, s39, s40, s41, s42, s43, s44, s45, s46, s47, s48, s49, s50, s51, s52, s53, s54, s55, s56, s57, s58, s59, s60, s61, s62, s63, s64, s65, s66, s67, s68, s69, s70, s71, s72, s73, s74, s75, s76, s77, s78, s79, s80, s81, s82, s83, s84, s85, s86, s87, s88, s89, s90, s91, s92, s93, s94, .bool true, s96, .agg #[.slice a7 i c7, .int .i64 p], undef, undef, undef, undef, undef, undef], defers := [] } X := by
        as_aux_lemma =>
        intro s6 s11 s12 s13 s14 s15 s16 s17 s18 s19 s20 s21 s22 s23 s24 s25 s26 s27 s28 s29 s30 s31 s32 s33 s34 s35 s36 s37 s38 s39 s40 s41 s42 s43 s44 s45 s46 s47 s48 s49 s50 s51 s52 s53 s54 s55 s56 s57 s58 s59 s60 s61 s62 s63 s64 s65 s66 s67 s68 s69 s70 s71 s72 s73 s74 s75 s76 s77 s78 s79 s80 s81 s82 s83 s84 s85 s86 s87 s88 s89 s90 s91 s92 s93 s94 s96 a7 c7 X hW' f47
        obtain ⟨z0, z1, z2, z3, z4, z5, z6, z7⟩ := hW'.cells
        refine any_seg (fu := 6) (l2 := fsL 55 49 []) [48] (by rfl) (by rw [← hops]; kernel_rfl) ?_
        obtain ⟨lz, hlz⟩ : ∃ l, atL ops [48] = l := ⟨_, rfl⟩
        rw [hlz]
        rw [← hops] at hlz
        simp only [atL, List.filterMap_cons, List.filterMap_nil, List.getElem?_toArray, List.getElem?_cons_succ, List.getElem?_cons_zero] at hlz
        subst hlz
        refine wpSeg_want (by rw [← hops]; kernel_rfl) (fun K' hK => ?_)
        go_simp
        refine hK _ _ ?_
        clear hK K'
        (try simp only [Act.put, List.setIfInBounds_toArray, List.set_cons_zero, List.set_cons_succ])
        show wpAny _ _ _ _ _ _ _ _
        exact T49 _ _ _ _ _ _ _ _ _ _ _ _ _ _ _ _ _ _ _ _ _ _ _ _ _ _ _ _ _ _ _ _ _ _ _ _ _ _ _ _ _ _ _ _ _ _ _ _ _ _ _ _ _ _ _ _ _ _ _ _ _ _ _ _ _ _ _ _ _ _ _ _ _ _ _ _ _ _ _ _ _ _ _ _ _ _ _ _ _ hW' f47
      have T47 : ∀ (s6 s11 s12 s13 s14 s15 s16 s17 s18 s19 s20 s21 s22 s23 s24 s25 s26 s27 s28 s29 s30 s31 s32 s33 s34 s35 s36 s37 s38 s39 s40 s41 s42 s43 s44 s45 s46 s47 s48 s49 s50 s51 s52 s53 s54 s55 s56 s57 s58 s59 s60 s61 s62 s63 s64 s65 s66 s67 s68 s69 s70 s71 s72 s73 s74 s75 s76 s77 s78 s79 s80 s81 s82 s83 s84 s85 s86 s87 s88 s89 s90 s91 s92 s93 s94 : Value) (X : World), TlK w a b i m c d p q L Q t X → wpAny Try.prog .any ops QQ 8 (fsL 55 47 []) { tmps := #[ptV (.slice a i c) p, ptV (.slice b m d) q, tmV t, .pointer (some ⟨w.heap.size, 0, none⟩), .pointer (some ⟨w.heap.size + 1, 0, none⟩), .pointer (some ⟨w.heap.size + 1 + 1, 0, none⟩), s6, .int .i64 A, .int .i64 B, .int .i64 A, .int .i64 B, s11, s12, s13, s14, s15, s16, s17, s18, s19, s20, s21, s22, s23, s24, s25, s26, s27, s28, s29, s30, s31, s32, s33, s34, s35, s36, s37, s38, s39, s40, s41, s42, s43, s44, s45, s46, s47, s48, s49, s50, s51, s52, s53, s54, s55, s56, s57, s58, s59, s60, s61, s62, s63, s64, s65, s66, s67, s68, s69, s70, s71, s72, s73, s74, s75, s76, s77, s78, s79, s80, s81, s82, s83, s84, s85, s86, s87, s88, s89, s90, s91, s92, s93, s94, .bool true, .agg #[.slice a i c, .int .i64 p], undef, undef, undef, undef, undef, undef, undef], defers := [] } X := by
        as_aux_lemma =>
        intro s6 s11 s12 s13 s14 s15 s16 s17 s18 s19 s20 s21 s22 s23 s24 s25 s26 s27 s28 s29 s30 s31 s32 s33 s34 s35 s36 s37 s38 s39 s40 s41 s42 s43 s44 s45 s46 s47 s48 s49 s50 s51 s52 s53 s54 s55 s56 s57 s58 s59 s60 s61 s62 s63 s64 s65 s66 s67 s68 s69 s70 s71 s72 s73 s74 s75 s76 s77 s78 s79 s80 s81 s82 s83 s84 s85 s86 s87 s88 s89 s90 s91 s92 s93 s94 X hW'
        obtain ⟨z0, z1, z2, z3, z4, z5, z6, z7⟩ := hW'.cells
        refine any_fork (f1 := 7) [47, 48] (by rw [← hops]; kernel_rfl) (by simp) (by rw [← hops]; kernel_rfl) (by rfl) ?_
        intro ix hix
        simp only [List.mem_cons, List.not_mem_nil, or_false] at hix
        rcases hix with rfl | rfl
        · obtain ⟨lz, hlz⟩ : ∃ l, atL ops [47] = l := ⟨_, rfl⟩
          rw [hlz]
          rw [← hops] at hlz
          simp only [atL, List.filterMap_cons, List.filterMap_nil, List.getElem?_toArray, List.getElem?_cons_succ, List.getElem?_cons_zero] at hlz
          subst hlz
          refine wpSeg_want (by rw [← hops]; kernel_rfl) (fun K' hK => ?_)
          go_simp
          refine (D47.out _ hW').mono ?_
          rintro e Xa ⟨a7, c7, rfl, f47, hW', hb⟩
          dsimp only
          refine hK _ _ ?_
          clear hK K'
          (try simp only [Act.put, List.setIfInBounds_toArray, List.set_cons_zero, List.set_cons_succ])
          clear z0 z1 z2 z3 z4 z5 z6 z7
          obtain ⟨z0, z1, z2, z3, z4, z5, z6, z7⟩ := hW'.cells
          show wpAny _ _ _ _ _ _ _ _
          rw [show (fsL 55 47 []).setIfInBounds 47 true = fsL 55 48 [] from by kernel_rfl]
          exact T48 _ _ _ _ _ _ _ _ _ _ _ _ _ _ _ _ _ _ _ _ _ _ _ _ _ _ _ _ _ _ _ _ _ _ _ _ _ _ _ _ _ _ _ _ _ _ _ _ _ _ _ _ _ _ _ _ _ _ _ _ _ _ _ _ _ _ _ _ _ _ _ _ _ _ _ _ _ _ _ _ _ _ _ _ _ _ _ _ _ hW' f47
        · obtain ⟨lz, hlz⟩ : ∃ l, atL ops [48] = l := ⟨_, rfl⟩
          rw [hlz]
          rw [← hops] at hlz
          simp only [atL, List.filterMap_cons, List.filterMap_nil, List.getElem?_toArray, List.getElem?_cons_succ, List.getElem?_cons_zero] at hlz
          subst hlz
          refine wpSeg_want (by rw [← hops]; kernel_rfl) (fun K' hK => ?_)
          go_simp
          refine hK _ _ ?_
          clear hK K'
          (try simp only [Act.put, List.setIfInBounds_toArray, List.set_cons_zero, List.set_cons_succ])
          show wpAny _ _ _ _ _ _ _ _
          rw [show (fsL 55 47 []).setIfInBounds 48 true = fsL 55 47 [48] from by kernel_rfl]
          exact T47_48 _ _ _ _ _ _ _ _ _ _ _ _ _ _ _ _ _ _ _ _ _ _ _ _ _ _ _ _ _ _ _ _ _ _ _ _ _ _ _ _ _ _ _ _ _ _ _ _ _ _ _ _ _ _ _ _ _ _ _ _ _ _ _ _ _ _ _ _ _ _ _ _ _ _ _ _ _ _ _ _ _ _ _ _ _ _ hW' 
      have T46_48 : ∀ (s6 s11 s12 s13 s14 s15 s16 s17 s18 s19 s20 s21 s22 s23 s24 s25 s26 s27 s28 s29 s30 s31 s32 s33 s34 s35 s36 s37 s38 s39 s40 s41 s42 s43 s44 s45 s46 s47 s48 s49 s50 s51 s52 s53 s54 s55 s56 s57 s58 s59 s60 s61 s62 s63 s64 s65 s66 s67 s68 s69 s70 s71 s72 s73 s74 s75 s76 s77 s78 s79 s80 s81 s82 s83 s84 s85 s86 s87 s88 s89 s90 s91 s92 s93 s94 : Value) (X : World), TlK w a b i m c d p q L Q t X → wpAny Try.prog .any ops QQ 8 (fsL 55 46 [48]) { tmps := #[ptV (.slice a i c) p, ptV (.slice b m d) q, tmV t, .pointer (some ⟨w.heap.size, 0, none⟩), .pointer (some ⟨w.heap.size + 1, 0, none⟩), .pointer (some ⟨w.heap.size + 1 + 1, 0, none⟩), s6, .int .i64 A, .int .i64 B, .int .i64 A, .int .i64 B, s11, s12, s13, s14, s15, s16, s17, s18, s19, s20, s21, s22, s23, s24, s25, s26, s27, s28, s29, s30, s31, s32, s33, s34, s35, s36, s37, s38, s39, s40, s41, s42, s43, s44, s45, s46, s47, s48, s49, s50, s51, s52, s53, s54, s55, s56, s57, s58, s59, s60, s61, s62, s63, s64, s65, s66, s67, s68, s69, s70, s71, s72, s73, s74, s75, s76, s77, s78, s79, s80, s81, s82, s83, s84, s85, s86, s87, s88, s89, s90, s91, s92, s93, s94, .bool true, undef, undef, .agg #[.slice a i c, .int .i64 p], undef, undef, undef, undef, undef], defers := [] } X := by
        as_aux_lemma =>
        intro s6 s11 s12 s13 s14 s15 s16 s17 s18 s19 s20 s21 s22 s23 s24 s25 s26 s27 s28 s29 s30 s31 s32 s33 s34 s35 s36 s37 s38 s39 s40 s41 s42 s43 s44 s45 s46 s47 s48 s49 s50 s51 s52 s53 s54 s55 s56 s57 s58 s59 s60 s61 s62 s63 s64 s65 s66 s67 s68 s69 s70 s71 s72 s73 s74 s75 s76 s77 s78 s79 s80 s81 s82 s83 s84 s85 s86 s87 s88 s89 s90 s91 s92 s93 s94 X hW'
        obtain ⟨z0, z1, z2, z3, z4, z5, z6, z7⟩ := hW'.cells
        refine any_seg (fu := 7) (l2 := fsL 55 47 [48]) [46] (by rfl) (by rw [← hops]; kernel_rfl) ?_
        obtain ⟨lz, hlz⟩ : ∃ l, atL ops [46] = l := ⟨_, rfl⟩
        rw [hlz]
        rw [← hops] at hlz
        simp only [atL, List.filterMap_cons, List.filterMap_nil, List.getElem?_toArray, List.getElem?_cons_succ, List.getElem?_cons_zero] at hlz
        subst hlz
        refine wpSeg_want (by rw [← hops]; kernel_rfl) (fun K' hK => ?_)
        go_simp
        refine hK _ _ ?_
        clear hK K'
        (try simp only [Act.put, List.setIfInBounds_toArray, List.set_cons_zero, List.set_cons_succ])
        show wpAny _ _ _ _ _ _ _ _
        exact T47_48 _ _ _ _ _ _ _ _ _ _ _ _ _ _ _ _ _ _ _ _ _ _ _ _ _ _ _ _ _ _ _ _ _ _ _ _ _ _ _ _ _ _ _ _ _ _ _ _ _ _ _ _ _ _ _ _ _ _ _ _ _ _ _ _ _ _ _ _ _ _ _ _ _ _ _ _ _ _ _ _ _ _ _ _ _ _ hW' 
      have T46 : ∀ (s6 s11 s12 s13 s14 s15 s16 s17 s18 s19 s20 s21 s22 s23 s24 s25 s26 s27 s28 s29 s30 s31 s32 s33 s34 s35 s36 s37 s38 s39 s40 s41 s42 s43 s44 s45 s46 s47 s48 s49 s50 s51 s52 s53 s54 s55 s56 s57 s58 s59 s60 s61 s62 s63 s64 s65 s66 s67 s68 s69 s70 s71 s72 s73 s74 s75 s76 s77 s78 s79 s80 s81 s82 s83 s84 s85 s86 s87 s88 s89 s90 s91 s92 s93 s94 : Value) (X : World), TlK w a b i m c d p q L Q t X → wpAny Try.prog .any ops QQ 9 (fsL 55 46 []) { tmps := #[ptV (.slice a i c) p, ptV (.slice b m d) q, tmV t, .pointer (some ⟨w.heap.size, 0, none⟩), .pointer (some ⟨w.heap.size + 1, 0, none⟩), .pointer (some ⟨w.heap.size + 1 + 1, 0, none⟩), s6, .int .i64 A, .int .i64 B, .int .i64 A, .int .i64 B, s11, s12, s13, s14, s15, s16, s17, s18, s19, s20, s21, s22, s23, s24, s25, s26, s27, s28, s29, s30, s31, s32, s33, s34, s35, s36, s37, s38, s39, s40, s41, s42, s43, s44, s45, s46, s47, s48, s49, s50, s51, s52, s53, s54, s55, s56, s57, s58, s59, s60, s61, s62, s63, s64, s65, s66, s67, s68, s69, s70, s71, s72, s73, s74, s75, s76, s77, s78, s79, s80, s81, s82, s83, s84, s85, s86, s87, s88, s89, s90, s91, s92, s93, s94, .bool true, undef, undef, undef, undef, undef, undef, undef, undef], defers := [] } X := by
        as_aux_lemma =>
        intro s6 s11 s12 s13 s14 s15 s16 s17 s18 s19 s20 s21 s22 s23 s24 s25 s26 s27 s28 s29 s30 s31 s32 s33 s34 s35 s36 s37 s38 s39 s40 s41 s42 s43 s44 s45 s46 s47 s48 s49 s50 s51 s52 s53 s54 s55 s56 s57 s58 s59 s60 s61 s62 s63 s64 s65 s66 s67 s68 s69 s70 s71 s72 s73 s74 s75 s76 s77 s78 s79 s80 s81 s82 s83 s84 s85 s86 s87 s88 s89 s90 s91 s92 s93 s94 X hW'
        obtain ⟨z0, z1, z2, z3, z4, z5, z6, z7⟩ := hW'.cells
        refine any_fork (f1 := 8) [46, 48] (by rw [← hops]; kernel_rfl) (by simp) (by rw [← hops]; kernel_rfl) (by rfl) ?_
        intro ix hix
        simp only [List.mem_cons, List.not_mem_nil, or_false] at hix
        rcases hix with rfl | rfl
        · obtain ⟨lz, hlz⟩ : ∃ l, atL ops [46] = l := ⟨_, rfl⟩
          rw [hlz]
          rw [← hops] at hlz
          simp only [atL, List.filterMap_cons, List.filterMap_nil, List.getElem?_toArray, List.getElem?_cons_succ, List.getElem?_cons_zero] at hlz
          subst hlz
          refine wpSeg_want (by rw [← hops]; kernel_rfl) (fun K' hK => ?_)
          go_simp
          refine hK _ _ ?_
          clear hK K'
          (try simp only [Act.put, List.setIfInBounds_toArray, List.set_cons_zero, List.set_cons_succ])
          show wpAny _ _ _ _ _ _ _ _
          rw [show (fsL 55 46 []).setIfInBounds 46 true = fsL 55 47 [] from by kernel_rfl]
          exact T47 _ _ _ _ _ _ _ _ _ _ _ _ _ _ _ _ _ _ _ _ _ _ _ _ _ _ _ _ _ _ _ _ _ _ _ _ _ _ _ _ _ _ _ _ _ _ _ _ _ _ _ _ _ _ _ _ _ _ _ _ _ _ _ _ _ _ _ _ _ _ _ _ _ _ _ _ _ _ _ _ _ _ _ _ _ _ hW' 
        · obtain ⟨lz, hlz⟩ : ∃ l, atL ops [48] = l := ⟨_, rfl⟩
          rw [hlz]
          rw [← hops] at hlz
          simp only [atL, List.filterMap_cons, List.filterMap_nil, List.getElem?_toArray, List.getElem?_cons_succ, List.getElem?_cons_zero] at hlz
          subst hlz
          refine wpSeg_want (by rw [← hops]; kernel_rfl) (fun K' hK => ?_)
          go_simp
          refine hK _ _ ?_
          clear hK K'
          (try simp only [Act.put, List.setIfInBounds_toArray, List.set_cons_zero, List.set_cons_succ])
          show wpAny _ _ _ _ _ _ _ _
          rw [show (fsL 55 46 []).setIfInBounds 48 true = fsL 55 46 [48] from by kernel_rfl]
          exact T46_48 _ _ _ _ _ _ _ _ _ _ _ _ _ _ _ _ _ _ _ _ _ _ _ _ _ _ _ _ _ _ _ _ _ _ _ _ _ _ _ _ _ _ _ _ _ _ _ _ _ _ _ _ _ _ _ _ _ _ _ _ _ _ _ _ _ _ _ _ _ _ _ _ _ _ _ _ _ _ _ _ _ _ _ _ _ _ hW' 
      have T43 : ∀ (s6 s11 s12 s13 s14 s15 s16 s17 s18 s19 s20 s21 s22 s23 s24 s25 s26 s27 s28 s29 s30 s31 s32 s33 s34 s35 s36 s37 s38 s39 s40 s41 s42 s43 s44 s45 s46 s47 s48 s49 s50 s51 s52 s53 s54 s55 s56 s57 s58 s59 s60 s61 s62 s63 s64 s65 s66 s67 s68 s69 s70 s71 s72 s73 s74 s75 s76 s77 s78 s79 s80 s81 s82 s83 s84 s85 s87 s88 s90 s91 : Value) (X : World), TlK w a b i m c d p q L Q t X → wpAny Try.prog .any ops QQ 12 (fsL 55 43 []) { tmps := #[ptV (.slice a i c) p, ptV (.slice b m d) q, tmV t, .pointer (some ⟨w.heap.size, 0, none⟩), .pointer (some ⟨w.heap.size + 1, 0, none⟩), .pointer (some ⟨w.heap.size + 1 + 1, 0, none⟩), s6, .int .i64 A, .int .i64 B, .int .i64 A, .int .i64 B, s11, s12, s13, s14, s15, s16, s17, s18, s19, s20, s21, s22, s23, s24, s25, s26, s27, s28, s29, s30, s31, s32, s33, s34, s35, s36, s37, s38, s39, s40, s41, s42, s43, s44, s45, s46, s47, s48, s49, s50, s51, s52, s53, s54, s55, s56, s57, s58, s59, s60, s61, s62, s63, s64, s65, s66, s67, s68, s69, s70, s71, s72, s73, s74, s75, s76, s77, s78, s79, s80, s81, s82, s83, s84, s85, .bool true, s87, s88, .bool SM, s90, s91, .bool SM, undef, undef, undef, undef, undef, undef, undef, undef, undef, undef, undef], defers := [] } X := by
        as_aux_lemma =>
        intro s6 s11 s12 s13 s14 s15 s16 s17 s18 s19 s20 s21 s22 s23 s24 s25 s26 s27 s28 s29 s30 s31 s32 s33 s34 s35 s36 s37 s38 s39 s40 s41 s42 s43 s44 s45 s46 s47 s48 s49 s50 s51 s52 s53 s54 s55 s56 s57 s58 s59 s60 s61 s62 s63 s64 s65 s66 s67 s68 s69 s70 s71 s72 s73 s74 s75 s76 s77 s78 s79 s80 s81 s82 s83 s84 s85 s87 s88 s90 s91 X hW'
        obtain ⟨z0, z1, z2, z3, z4, z5, z6, z7⟩ := hW'.cells
        refine any_seg (fu := 9) (l2 := fsL 55 46 []) [43, 44, 45] (by rfl) (by rw [← hops]; kernel_rfl) ?_
        obtain ⟨lz, hlz⟩ : ∃ l, atL ops [43, 44, 45] = l := ⟨_, rfl⟩
        rw [hlz]
        rw [← hops] at hlz
        simp only [atL, List.filterMap_cons, List.filterMap_nil, List.getElem?_toArray, List.getElem?_cons_succ, List.getElem?_cons_zero] at hlz
        subst hlz
        refine wpSeg_want (by rw [← hops]; kernel_rfl) (fun K' hK => ?_)
        go_simp
        refine hK _ _ ?_
        clear hK K'
        (try simp only [Act.put, List.setIfInBounds_toArray, List.set_cons_zero, List.set_cons_succ])
        refine wpSeg_want (by rfl) (fun K' hK => ?_)
        go_simp
        refine hK _ _ ?_
        clear hK K'
        (try simp only [Act.put, List.setIfInBounds_toArray, List.set_cons_zero, List.set_cons_succ])
        refine wpSeg_want (by rfl) (fun K' hK => ?_)
        go_simp
        refine hK _ _ ?_
        clear hK K'
        (try simp only [Act.put, List.setIfInBounds_toArray, List.set_cons_zero, List.set_cons_succ])
        show wpAny _ _ _ _ _ _ _ _
        exact T46 _ _ _ _ _ _ _ _ _ _ _ _ _ _ _ _ _ _ _ _ _ _ _ _ _ _ _ _ _ _ _ _ _ _ _ _ _ _ _ _ _ _ _ _ _ _ _ _ _ _ _ _ _ _ _ _ _ _ _ _ _ _ _ _ _ _ _ _ _ _ _ _ _ _ _ _ _ _ _ _ _ _ _ _ _ _ hW' 
      have T42 : ∀ (s6 s11 s12 s13 s14 s15 s16 s17 s18 s19 s20 s21 s22 s23 s24 s25 s26 s27 s28 s29 s30 s31 s32 s33 s34 s35 s36 s37 s38 s39 s40 s41 s42 s43 s44 s45 s46 s47 s48 s49 s50 s51 s52 s53 s54 s55 s56 s57 s58 s59 s60 s61 s62 s63 s64 s65 s66 s67 s68 s69 s70 s71 s72 s73 s74 s75 s76 s77 s78 s79 s80 s81 s82 s83 s84 s85 s87 s88 : Value) (X : World), TlK w a b i m c d p q L Q t X → wpAny Try.prog .any ops QQ 13 (fsL 55 42 []) { tmps := #[ptV (.slice a i c) p, ptV (.slice b m d) q, tmV t, .pointer (some ⟨w.heap.size, 0, none⟩), .pointer (some ⟨w.heap.size + 1, 0, none⟩), .pointer (some ⟨w.heap.size + 1 + 1, 0, none⟩), s6, .int .i64 A, .int .i64 B, .int .i64 A, .int .i64 B, s11, s12, s13, s14, s15, s16, s17, s18, s19, s20, s21, s22, s23, s24, s25, s26, s27, s28, s29, s30, s31, s32, s33, s34, s35, s36, s37, s38, s39, s40, s41, s42, s43, s44, s45, s46, s47, s48, s49, s50, s51, s52, s53, s54, s55, s56, s57, s58, s59, s60, s61, s62, s63, s64, s65, s66, s67, s68, s69, s70, s71, s72, s73, s74, s75, s76, s77, s78, s79, s80, s81, s82, s83, s84, s85, .bool true, s87, s88, .bool SM, .agg #[.slice a i c, .int .i64 p], .agg #[.slice b m d, .int .i64 q], undef, undef, undef, undef, undef, undef, undef, undef, undef, undef, undef, undef], defers := [] } X := by
        as_aux_lemma =>
        intro s6 s11 s12 s13 s14 s15 s16 s17 s18 s19 s20 s21 s22 s23 s24 s25 s26 s27 s28 s29 s30 s31 s32 s33 s34 s35 s36 s37 s38 s39 s40 s41 s42 s43 s44 s45 s46 s47 s48 s49 s50 s51 s52 s53 s54 s55 s56 s57 s58 s59 s60 s61 s62 s63 s64 s65 s66 s67 s68 s69 s70 s71 s72 s73 s74 s75 s76 s77 s78 s79 s80 s81 s82 s83 s84 s85 s87 s88 X hW'
        obtain ⟨z0, z1, z2, z3, z4, z5, z6, z7⟩ := hW'.cells
        refine any_seg (fu := 12) (l2 := fsL 55 43 []) [42] (by rfl) (by rw [← hops]; kernel_rfl) ?_
        obtain ⟨lz, hlz⟩ : ∃ l, atL ops [42] = l := ⟨_, rfl⟩
        rw [hlz]
        rw [← hops] at hlz
        simp only [atL, List.filterMap_cons, List.filterMap_nil, List.getElem?_toArray, List.getElem?_cons_succ, List.getElem?_cons_zero] at hlz
        subst hlz
        refine wpSeg_want (by rw [← hops]; kernel_rfl) (fun K' hK => ?_)
        go_simp
        refine (D42.out _ hW').mono ?_
        rintro e Xa ⟨rfl, hW', hb⟩
        dsimp only
        refine hK _ _ ?_
        clear hK K'
        (try simp only [Act.put, List.setIfInBounds_toArray, List.set_cons_zero, List.set_cons_succ])
        clear z0 z1 z2 z3 z4 z5 z6 z7
        obtain ⟨z0, z1, z2, z3, z4, z5, z6, z7⟩ := hW'.cells
        show wpAny _ _ _ _ _ _ _ _
        exact T43 _ _ _ _ _ _ _ _ _ _ _ _ _ _ _ _ _ _ _ _ _ _ _ _ _ _ _ _ _ _ _ _ _ _ _ _ _ _ _ _ _ _ _ _ _ _ _ _ _ _ _ _ _ _ _ _ _ _ _ _ _ _ _ _ _ _ _ _ _ _ _ _ _ _ _ _ _ _ _ _ _ hW' 
      have T40_41 : ∀ (s6 s11 s12 s13 s14 s15 s16 s17 s18 s19 s20 s21 s22 s23 s24 s25 s26 s27 s28 s29 s30 s31 s32 s33 s34 s35 s36 s37 s38 s39 s40 s41 s42 s43 s44 s45 s46 s47 s48 s49 s50 s51 s52 s53 s54 s55 s56 s57 s58 s59 s60 s61 s62 s63 s64 s65 s66 s67 s68 s69 s70 s71 s72 s73 s74 s75 s76 s77 s78 s79 s80 s81 s82 s83 s84 s85 s87 s88 : Value) (X : World), TlK w a b i m c d p q L Q t X → wpAny Try.prog .any ops QQ 14 (fsL 55 40 [41]) { tmps := #[ptV (.slice a i c) p, ptV (.slice b m d) q, tmV t, .pointer (some ⟨w.heap.size, 0, none⟩), .pointer (some ⟨w.heap.size + 1, 0, none⟩), .pointer (some ⟨w.heap.size + 1 + 1, 0, none⟩), s6, .int .i64 A, .int .i64 B, .int .i64 A, .int .i64 B, s11, s12, s13, s14, s15, s16, s17, s18, s19, s20, s21, s22, s23, s24, s25, s26, s27, s28, s29, s30, s31, s32, s33, s34, s35, s36, s37, s38, s39, s40, s41, s42, s43, s44, s45, s46, s47, s48, s49, s50, s51, s52, s53, s54, s55, s56, s57, s58, s59, s60, s61, s62, s63, s64, s65, s66, s67, s68, s69, s70, s71, s72, s73, s74, s75, s76, s77, s78, s79, s80, s81, s82, s83, s84, s85, .bool true, s87, s88, .bool SM, undef, .agg #[.slice b m d, .int .i64 q], undef, undef, undef, undef, undef, undef, undef, undef, undef, undef, undef, undef], defers := [] } X := by
        as_aux_lemma =>
        intro s6 s11 s12 s13 s14 s15 s16 s17 s18 s19 s20 s21 s22 s23 s24 s25 s26 s27 s28 s29 s30 s31 s32 s33 s34 s35 s36 s37 s38 s39 s40 s41 s42 s43 s44 s45 s46 s47 s48 s49 s50 s51 s52 s53 s54 s55 s56 s57 s58 s59 s60 s61 s62 s63 s64 s65 s66 s67 s68 s69 s70 s71 s72 s73 s74 s75 s76 s77 s78 s79 s80 s81 s82 s83 s84 s85 s87 s88 X hW'
        obtain ⟨z0, z1, z2, z3, z4, z5, z6, z7⟩ := hW'.cells
        refine any_seg (fu := 13) (l2 := fsL 55 42 []) [40] (by rfl) (by rw [← hops]; kernel_rfl) ?_
        obtain ⟨lz, hlz⟩ : ∃ l, atL ops [40] = l := ⟨_, rfl⟩
        rw [hlz]
        rw [← hops] at hlz
        simp only [atL, List.filterMap_cons, List.filterMap_nil, List.getElem?_toArray, List.getElem?_cons_succ, List.getElem?_cons_zero] at hlz
        subst hlz
        refine wpSeg_want (by rw [← hops]; kernel_rfl) (fun K' hK => ?_)
        go_simp
        refine hK _ _ ?_
        clear hK K'
        (try simp only [Act.put, List.setIfInBounds_toArray, List.set_cons_zero, List.set_cons_succ])
        show wpAny _ _ _ _ _ _ _ _
        exact T42 _ _ _ _ _ _ _ _ _ _ _ _ _ _ _ _ _ _ _ _ _ _ _ _ _ _ _ _ _ _ _ _ _ _ _ _ _ _ _ _ _ _ _ _ _ _ _ _ _ _ _ _ _ _ _ _ _ _ _ _ _ _ _ _ _ _ _ _ _ _ _ _ _ _ _ _ _ _ _ hW' 
      have T41 : ∀ (s6 s11 s12 s13 s14 s15 s16 s17 s18 s19 s20 s21 s22 s23 s24 s25 s26 s27 s28 s29 s30 s31 s32 s33 s34 s35 s36 s37 s38 s39 s40 s41 s42 s43 s44 s45 s46 s47 s48 s49 s50 s51 s52 s53 s54 s55 s56 s57 s58 s59 s60 s61 s62 s63 s64 s65 s66 s67 s68 s69 s70 s71 s72 s73 s74 s75 s76 s77 s78 s79 s80 s81 s82 s83 s84 s85 s87 s88 : Value) (X : World), TlK w a b i m c d p q L Q t X → wpAny Try.prog .any ops QQ 14 (fsL 55 41 []) { tmps := #[ptV (.slice a i c) p, ptV (.slice b m d) q, tmV t, .pointer (some ⟨w.heap.size, 0, none⟩), .pointer (some ⟨w.heap.size + 1, 0, none⟩), .pointer (some ⟨w.heap.size + 1 + 1, 0, none⟩), s6, .int .i64 A, .int .i64 B, .int .i64 A, .int .i64 B, s11, s12, s13, s14, s15, s16, s17, s18, s19, s20, s21, s22, s23, s24, s25, s26, s27, s28, s29, s30, s31, s32, s33, s34, s35, s36, s37, s38, s39, s40, s41, s42, s43, s44, s45, s46, s47, s48, s49, s50, s51, s52, s53, s54, s55, s56, s57, s58, s59, s60, s61, s62, s63, s64, s65, s66, s67, s68, s69, s70, s71, s72, s73, s74, s75, s76, s77, s78, s79, s80, s81, s82, s83, s84, s85, .bool true, s87, s88, .bool SM, .agg #[.slice a i c, .int .i64 p], undef, undef, undef, undef, undef, undef, undef, undef, undef, undef, undef, undef, undef], defers := [] } X := by
        as_aux_lemma =>
        intro s6 s11 s12 s13 s14 s15 s16 s17 s18 s19 s20 s21 s22 s23 s24 s25 s26 s27 s28 s29 s30 s31 s32 s33 s34 s35 s36 s37 s38 s39 s40 s41 s42 s43 s44 s45 s46 s47 s48 s49 s50 s51 s52 s53 s54 s55 s56 s57 s58 s59 s60 s61 s62 s63 s64 s65 s66 s67 s68 s69 s70 s71 s72 s73 s74 s75 s76 s77 s78 s79 s80 s81 s82 s83 s84 s85 s87 s88 X hW'
        obtain ⟨z0, z1, z2, z3, z4, z5, z6, z7⟩ := hW'.cells
        refine any_seg (fu := 13) (l2 := fsL 55 42 []) [41] (by rfl) (by rw [← hops]; kernel_rfl) ?_
        obtain ⟨lz, hlz⟩ : ∃ l, atL ops [41] = l := ⟨_, rfl⟩
        rw [hlz]
        rw [← hops] at hlz
        simp only [atL, List.filterMap_cons, List.filterMap_nil, List.getElem?_toArray, List.getElem?_cons_succ, List.getElem?_cons_zero] at hlz
        subst hlz
        refine wpSeg_want (by rw [← hops]; kernel_rfl) (fun K' hK => ?_)
        go_simp
        refine hK _ _ ?_
        clear hK K'
        (try simp only [Act.put, List.setIfInBounds_toArray, List.set_cons_zero, List.set_cons_succ])
        show wpAny _ _ _ _ _ _ _ _
        exact T42 _ _ _ _ _ _ _ _ _ _ _ _ _ _ _ _ _ _ _ _ _ _ _ _ _ _ _ _ _ _ _ _ _ _ _ _ _ _ _ _ _ _ _ _ _ _ _ _ _ _ _ _ _ _ _ _ _ _ _ _ _ _ _ _ _ _ _ _ _ _ _ _ _ _ _ _ _ _ _ hW' 
      have T39_40_41 : ∀ (s6 s11 s12 s13 s14 s15 s16 s17 s18 s19 s20 s21 s22 s23 s24 s25 s26 s27 s28 s29 s30 s31 s32 s33 s34 s35 s36 s37 s38 s39 s40 s41 s42 s43 s44 s45 s46 s47 s48 s49 s50 s51 s52 s53 s54 s55 s56 s57 s58 s59 s60 s61 s62 s63 s64 s65 s66 s67 s68 s69 s70 s71 s72 s73 s74 s75 s76 s77 s78 s79 s80 s81 s82 s83 s84 s85 : Value) (X : World), TlK w a b i m c d p q L Q t X → wpAny Try.prog .any ops QQ 14 (fsL 55 39 [40, 41]) { tmps := #[ptV (.slice a i c) p, ptV (.slice b m d) q, tmV t, .pointer (some ⟨w.heap.size, 0, none⟩), .pointer (some ⟨w.heap.size + 1, 0, none⟩), .pointer (some ⟨w.heap.size + 1 + 1, 0, none⟩), s6, .int .i64 A, .int .i64 B, .int .i64 A, .int .i64 B, s11, s12, s13, s14, s15, s16, s17, s18, s19, s20, s21, s22, s23, s24, s25, s26, s27, s28, s29, s30, s31, s32, s33, s34, s35, s36, s37, s38, s39, s40, s41, s42, s43, s44, s45, s46, s47, s48, s49, s50, s51, s52, s53, s54, s55, s56, s57, s58, s59, s60, s61, s62, s63, s64, s65, s66, s67, s68, s69, s70, s71, s72, s73, s74, s75, s76, s77, s78, s79, s80, s81, s82, s83, s84, s85, .bool true, .agg #[.slice a i c, .int .i64 p], .agg #[.slice b m d, .int .i64 q], undef, .agg #[.slice a i c, .int .i64 p], .agg #[.slice b m d, .int .i64 q], undef, undef, undef, undef, undef, undef, undef, undef, undef, undef, undef, undef], defers := [] } X := by
        as_aux_lemma =>
        intro s6 s11 s12 s13 s14 s15 s16 s17 s18 s19 s20 s21 s22 s23 s24 s25 s26 s27 s28 s29 s30 s31 s32 s33 s34 s35 s36 s37 s38 s39 s40 s41 s42 s43 s44 s45 s46 s47 s48 s49 s50 s51 s52 s53 s54 s55 s56 s57 s58 s59 s60 s61 s62 s63 s64 s65 s66 s67 s68 s69 s70 s71 s72 s73 s74 s75 s76 s77 s78 s79 s80 s81 s82 s83 s84 s85 X hW'
        obtain ⟨z0, z1, z2, z3, z4, z5, z6, z7⟩ := hW'.cells
        refine any_seg (fu := 13) (l2 := fsL 55 42 []) [39] (by rfl) (by rw [← hops]; kernel_rfl) ?_
        obtain ⟨lz, hlz⟩ : ∃ l, atL ops [39] = l := ⟨_, rfl⟩
        rw [hlz]
        rw [← hops] at hlz
        simp only [atL, List.filterMap_cons, List.filterMap_nil, List.getElem?_toArray, List.getElem?_cons_succ, List.getElem?_cons_zero] at hlz
        subst hlz
        refine wpSeg_want (by rw [← hops]; kernel_rfl) (fun K' hK => ?_)
        go_simp
        refine (D39.out _ hW').mono ?_
        rintro e Xa ⟨rfl, hW', hb⟩
        dsimp only
        refine hK _ _ ?_
        clear hK K'
        (try simp only [Act.put, List.setIfInBounds_toArray, List.set_cons_zero, List.set_cons_succ])
        clear z0 z1 z2 z3 z4 z5 z6 z7
        obtain ⟨z0, z1, z2, z3, z4, z5, z6, z7⟩ := hW'.cells
        show wpAny _ _ _ _ _ _ _ _
        exact T42 _ _ _ _ _ _ _ _ _ _ _ _ _ _ _ _ _ _ _ _ _ _ _ _ _ _ _ _ _ _ _ _ _ _ _ _ _ _ _ _ _ _ _ _ _ _ _ _ _ _ _ _ _ _ _ _ _ _ _ _ _ _ _ _ _ _ _ _ _ _ _ _ _ _ _ _ _ _ _ hW' 
      have T39_40 : ∀ (s6 s11 s12 s13 s14 s15 s16 s17 s18 s19 s20 s21 s22 s23 s24 s25 s26 s27 s28 s29 s30 s31 s32 s33 s34 s35 s36 s37 s38 s39 s40 s41 s42 s43 s44 s45 s46 s47 s48 s49 s50 s51 s52 s53 s54 s55 s56 s57 s58 s59 s60 s61 s62 s63 s64 s65 s66 s67 s68 s69 s70 s71 s72 s73 s74 s75 s76 s77 s78 s79 s80 s81 s82 s83 s84 s85 : Value) (X : World), TlK w a b i m c d p q L Q t X → wpAny Try.prog .any ops QQ 15 (fsL 55 39 [40]) { tmps := #[ptV (.slice a i c) p, ptV (.slice b m d) q, tmV t, .pointer (some ⟨w.heap.size, 0, none⟩), .pointer (some ⟨w.heap.size + 1, 0, none⟩), .pointer (some ⟨w.heap.size + 1 + 1, 0, none⟩), s6, .int .i64 A, .int .i64 B, .int .i64 A, .int .i64 B, s11, s12, s13, s14, s15, s16, s17, s18, s19, s20, s21, s22, s23, s24, s25, s26, s27, s28, s29, s30, s31, s32, s33, s34, s35, s36, s37, s38, s39, s40, s41, s42, s43, s44, s45, s46, s47, s48, s49, s50, s51, s52, s53, s54, s55, s56, s57, s58, s59, s60, s61, s62, s63, s64, s65, s66, s67, s68, s69, s70, s71, s72, s73, s74, s75, s76, s77, s78, s79, s80, s81, s82, s83, s84, s85, .bool true, .agg #[.slice a i c, .int .i64 p], .agg #[.slice b m d, .int .i64 q], undef, .agg #[.slice a i c, .int .i64 p], undef, undef, undef, undef, undef, undef, undef, undef, undef, undef, undef, undef, undef], defers := [] } X := by
        as_aux_lemma =>
        intro s6 s11 s12 s13 s14 s15 s16 s17 s18 s19 s20 s21 s22 s23 s24 s25 s26 s27 s28 s29 s30 s31 s32 s33 s34 s35 s36 s37 s38 s39 s40 s41 s42 s43 s44 s45 s46 s47 s48 s49 s50 s51 s52 s53 s54 s55 s56 s57 s58 s59 s60 s61 s62 s63 s64 s65 s66 s67 s68 s69 s70 s71 s72 s73 s74 s75 s76 s77 s78 s79 s80 s81 s82 s83 s84 s85 X hW'
        obtain ⟨z0, z1, z2, z3, z4, z5, z6, z7⟩ := hW'.cells
        refine any_fork (f1 := 14) [39, 41] (by rw [← hops]; kernel_rfl) (by simp) (by rw [← hops]; kernel_rfl) (by rfl) ?_
        intro ix hix
        simp only [List.mem_cons, List.not_mem_nil, or_false] at hix
        rcases hix with rfl | rfl
        · obtain ⟨lz, hlz⟩ : ∃ l, atL ops [39] = l := ⟨_, rfl⟩
          rw [hlz]
          rw [← hops] at hlz
          simp only [atL, List.filterMap_cons, List.filterMap_nil, List.getElem?_toArray, List.getElem?_cons_succ, List.getElem?_cons_zero] at hlz
          subst hlz
          refine wpSeg_want (by rw [← hops]; kernel_rfl) (fun K' hK => ?_)
          go_simp
          refine (D39.out _ hW').mono ?_
          rintro e Xa ⟨rfl, hW', hb⟩
          dsimp only
          refine hK _ _ ?_
          clear hK K'
          (try simp only [Act.put, List.setIfInBounds_toArray, List.set_cons_zero, List.set_cons_succ])
          clear z0 z1 z2 z3 z4 z5 z6 z7
          obtain ⟨z0, z1, z2, z3, z4, z5, z6, z7⟩ := hW'.cells
          show wpAny _ _ _ _ _ _ _ _
          rw [show (fsL 55 39 [40]).setIfInBounds 39 true = fsL 55 41 [] from by kernel_rfl]
          exact T41 _ _ _ _ _ _ _ _ _ _ _ _ _ _ _ _ _ _ _ _ _ _ _ _ _ _ _ _ _ _ _ _ _ _ _ _ _ _ _ _ _ _ _ _ _ _ _ _ _ _ _ _ _ _ _ _ _ _ _ _ _ _ _ _ _ _ _ _ _ _ _ _ _ _ _ _ _ _ _ hW' 
        · obtain ⟨lz, hlz⟩ : ∃ l, atL ops [41] = l := ⟨_, rfl⟩
          rw [hlz]
          rw [← hops] at hlz
          simp only [atL, List.filterMap_cons, List.filterMap_nil, List.getElem?_toArray, List.getElem?_cons_succ, List.getElem?_cons_zero] at hlz
          subst hlz
          refine wpSeg_want (by rw [← hops]; kernel_rfl) (fun K' hK => ?_)
          go_simp
          refine hK _ _ ?_
          clear hK K'
          (try simp only [Act.put, List.setIfInBounds_toArray, List.set_cons_zero, List.set_cons_succ])
          show wpAny _ _ _ _ _ _ _ _
          rw [show (fsL 55 39 [40]).setIfInBounds 41 true = fsL 55 39 [40, 41] from by kernel_rfl]
          exact T39_40_41 _ _ _ _ _ _ _ _ _ _ _ _ _ _ _ _ _ _ _ _ _ _ _ _ _ _ _ _ _ _ _ _ _ _ _ _ _ _ _ _ _ _ _ _ _ _ _ _ _ _ _ _ _ _ _ _ _ _ _ _ _ _ _ _ _ _ _ _ _ _ _ _ _ _ _ _ _ hW' 
      have T39_41 : ∀ (s6 s11 s12 s13 s14 s15 s16 s17 s18 s19 s20 s21 s22 s23 s24 s25 s26 s27 s28 s29 s30 s31 s32 s33 s34 s35 s36 s37 s38 s39 s40 s41 s42 s43 s44 s45 s46 s47 s48 s49 s50 s51 s52 s53 s54 s55 s56 s57 s58 s59 s60 s61 s62 s63 s64 s65 s66 s67 s68 s69 s70 s71 s72 s73 s74 s75 s76 s77 s78 s79 s80 s81 s82 s83 s84 s85 : Value) (X : World), TlK w a b i m c d p q L Q t X → wpAny Try.prog .any ops QQ 15 (fsL 55 39 [41]) { tmps := #[ptV (.slice a i c) p, ptV (.slice b m d) q, tmV t, .pointer (some ⟨w.heap.size, 0, none⟩), .pointer (some ⟨w.heap.size + 1, 0, none⟩), .pointer (some ⟨w.heap.size + 1 + 1, 0, none⟩), s6, .int .i64 A, .int .i64 B, .int .i64 A, .int .i64 B, s11, s12, s13, s14, s15, s16, s17, s18, s19, s20, s21, s22, s23, s24, s25, s26, s27, s28, s29, s30, s31, s32, s33, s34, s35, s36, s37, s38, s39, s40, s41, s42, s43, s44, s45, s46, s47, s48, s49, s50, s51, s52, s53, s54, s55, s56, s57, s58, s59, s60, s61, s62, s63, s64, s65, s66, s67, s68, s69, s70, s71, s72, s73, s74, s75, s76, s77, s78, s79, s80, s81, s82, s83, s84, s85, .bool true, .agg #[.slice a i c, .int .i64 p], .agg #[.slice b m d, .int .i64 q], undef, undef, .agg #[.slice b m d, .int .i64 q], undef, undef, undef, undef, undef, undef, undef, undef, undef, undef, undef, undef], defers := [] } X := by
        as_aux_lemma =>
        intro s6 s11 s12 s13 s14 s15 s16 s17 s18 s19 s20 s21 s22 s23 s24 s25 s26 s27 s28 s29 s30 s31 s32 s33 s34 s35 s36 s37 s38 s39 s40 s41 s42 s43 s44 s45 s46 s47 s48 s49 s50 s51 s52 s53 s54 s55 s56 s57 s58 s59 s60 s61 s62 s63 s64 s65 s66 s67 s68 s69 s70 s71 s72 s73 s74 s75 s76 s77 s78 s79 s80 s81 s82 s83 s84 s85 X hW'
        obtain ⟨z0, z1, z2, z3, z4, z5, z6, z7⟩ := hW'.cells
        refine any_fork (f1 := 14) [39, 40] (by rw [← hops]; kernel_rfl) (by simp) (by rw [← hops]; kernel_rfl) (by rfl) ?_
        intro ix hix
        simp only [List.mem_cons, List.not_mem_nil, or_false] at hix
        rcases hix with rfl | rfl
        · obtain ⟨lz, hlz⟩ : ∃ l, atL ops [39] = l := ⟨_, rfl⟩
          rw [hlz]
          rw [← hops] at hlz
          simp only [atL, List.filterMap_cons, List.filterMap_nil, List.getElem?_toArray, List.getElem?_cons_succ, List.getElem?_cons_zero] at hlz
          subst hlz
          refine wpSeg_want (by rw [← hops]; kernel_rfl) (fun K' hK => ?_)
          go_simp
          refine (D39.out _ hW').mono ?_
          rintro e Xa ⟨rfl, hW', hb⟩
          dsimp only
          refine hK _ _ ?_
          clear hK K'
          (try simp only [Act.put, List.setIfInBounds_toArray, List.set_cons_zero, List.set_cons_succ])
          clear z0 z1 z2 z3 z4 z5 z6 z7
          obtain ⟨z0, z1, z2, z3, z4, z5, z6, z7⟩ := hW'.cells
          show wpAny _ _ _ _ _ _ _ _
          rw [show (fsL 55 39 [41]).setIfInBounds 39 true = fsL 55 40 [41] from by kernel_rfl]
          exact T40_41 _ _ _ _ _ _ _ _ _ _ _ _ _ _ _ _ _ _ _ _ _ _ _ _ _ _ _ _ _ _ _ _ _ _ _ _ _ _ _ _ _ _ _ _ _ _ _ _ _ _ _ _ _ _ _ _ _ _ _ _ _ _ _ _ _ _ _ _ _ _ _ _ _ _ _ _ _ _ _ hW' 
        · obtain ⟨lz, hlz⟩ : ∃ l, atL ops [40] = l := ⟨_, rfl⟩
          rw [hlz]
          rw [← hops] at hlz
          simp only [atL, List.filterMap_cons, List.filterMap_nil, List.getElem?_toArray, List.getElem?_cons_succ, List.getElem?_cons_zero] at hlz
          subst hlz
          refine wpSeg_want (by rw [← hops]; kernel_rfl) (fun K' hK => ?_)
          go_simp
          refine hK _ _ ?_
          clear hK K'
          (try simp only [Act.put, List.setIfInBounds_toArray, List.set_cons_zero, List.set_cons_succ])
          show wpAny _ _ _ _ _ _ _ _
          rw [show (fsL 55 39 [41]).setIfInBounds 40 true = fsL 55 39 [40, 41] from by kernel_rfl]
          exact T39_40_41 _ _ _ _ _ _ _ _ _ _ _ _ _ _ _ _ _ _ _ _ _ _ _ _ _ _ _ _ _ _ _ _ _ _ _ _ _ _ _ _ _ _ _ _ _ _ _ _ _ _ _ _ _ _ _ _ _ _ _ _ _ _ _ _ _ _ _ _ _ _ _ _ _ _ _ _ _ hW' 
      have T40 : ∀ (s6 s11 s12 s13 s14 s15 s16 s17 s18 s19 s20 s21 s22 s23 s24 s25 s26 s27 s28 s29 s30 s31 s32 s33 s34 s35 s36 s37 s38 s39 s40 s41 s42 s43 s44 s45 s46 s47 s48 s49 s50 s51 s52 s53 s54 s55 s56 s57 s58 s59 s60 s61 s62 s63 s64 s65 s66 s67 s68 s69 s70 s71 s72 s73 s74 s75 s76 s77 s78 s79 s80 s81 s82 s83 s84 s85 s87 s88 : Value) (X : World), TlK w a b i m c d p q L Q t X → wpAny Try.prog .any ops QQ 15 (fsL 55 40 []) { tmps := #[ptV (.slice a i c) p, ptV (.slice b m d) q, tmV t, .pointer (some ⟨w.heap.size, 0, none⟩), .pointer (some ⟨w.heap.size + 1, 0, none⟩), .pointer (some ⟨w.heap.size + 1 + 1, 0, none⟩), s6, .int .i64 A, .int .i64 B, .int .i64 A, .int .i64 B, s11, s12, s13, s14, s15, s16, s17, s18, s19, s20, s21, s22, s23, s24, s25, s26, s27, s28, s29, s30, s31, s32, s33, s34, s35, s36, s37, s38, s39, s40, s41, s42, s43, s44, s45, s46, s47, s48, s49, s50, s51, s52, s53, s54, s55, s56, s57, s58, s59, s60, s61, s62, s63, s64, s65, s66, s67, s68, s69, s70, s71, s72, s73, s74, s75, s76, s77, s78, s79, s80, s81, s82, s83, s84, s85, .bool true, s87, s88, .bool SM, undef, undef, undef, undef, undef, undef, undef, undef, undef, undef, undef, undef, undef, undef], defers := [] } X := by
        as_aux_lemma =>
        intro s6 s11 s12 s13 s14 s15 s16 s17 s18 s19 s20 s21 s22 s23 s24 s25 s26 s27 s28 s29 s30 s31 s32 s33 s34 s35 s36 s37 s38 s39 s40 s41 s42 s43 s44 s45 s46 s47 s48 s49 s50 s51 s52 s53 s54 s55 s56 s57 s58 s59 s60 s61 s62 s63 s64 s65 s66 s67 s68 s69 s70 s71 s72 s73 s74 s75 s76 s77 s78 s79 s80 s81 s82 s83 s84 s85 s87 s88 X hW'
        obtain ⟨z0, z1, z2, z3, z4, z5, z6, z7⟩ := hW'.cells
        refine any_fork (f1 := 14) [40, 41] (by rw [← hops]; kernel_rfl) (by simp) (by rw [← hops]; kernel_rfl) (by rfl) ?_
        intro ix hix
        simp only [List.mem_cons, List.not_mem_nil, or_false] at hix
        rcases hix with rfl | rfl
        · obtain ⟨lz, hlz⟩ : ∃ l, atL ops [40] = l := ⟨_, rfl⟩
          rw [hlz]
          rw [← hops] at hlz
          simp only [atL, List.filterMap_cons, List.filterMap_nil, List.getElem?_toArray, List.getElem?_cons_succ, List.getElem?_cons_zero] at hlz
          subst hlz
          refine wpSeg_want (by rw [← hops]; kernel_rfl) (fun K' hK => ?_)
          go_simp
          refine hK _ _ ?_
          clear hK K'
          (try simp only [Act.put, List.setIfInBounds_toArray, List.set_cons_zero, List.set_cons_succ])
          show wpAny _ _ _ _ _ _ _ _
          rw [show (fsL 55 40 []).setIfInBounds 40 true = fsL 55 41 [] from by kernel_rfl]
          exact T41 _ _ _ _ _ _ _ _ _ _ _ _ _ _ _ _ _ _ _ _ _ _ _ _ _ _ _ _ _ _ _ _ _ _ _ _ _ _ _ _ _ _ _ _ _ _ _ _ _ _ _ _ _ _ _ _ _ _ _ _ _ _ _ _ _ _ _ _ _ _ _ _ _ _ _ _ _ _ _ hW' 
        · obtain ⟨lz, hlz⟩ : ∃ l, atL ops [41] = l := ⟨_, rfl⟩
          rw [hlz]
          rw [← hops] at hlz
          simp only [atL, List.filterMap_cons, List.filterMap_nil, List.getElem?_toArray, List.getElem?_cons_succ, List.getElem?_cons_zero] at hlz
          subst hlz
          refine wpSeg_want (by rw [← hops]; kernel_rfl) (fun K' hK => ?_)
          go_simp
          refine hK _ _ ?_
          clear hK K'
          (try simp only [Act.put, List.setIfInBounds_toArray, List.set_cons_zero, List.set_cons_succ])
          show wpAny _ _ _ _ _ _ _ _
          rw [show (fsL 55 40 []).setIfInBounds 41 true = fsL 55 40 [41] from by kernel_rfl]
          exact T40_41 _ _ _ _ _ _ _ _ _ _ _ _ _ _ _ _ _ _ _ _ _ _ _ _ _ _ _ _ _ _ _ _ _ _ _ _ _ _ _ _ _ _ _ _ _ _ _ _ _ _ _ _ _ _ _ _ _ _ _ _ _ _ _ _ _ _ _ _ _ _ _ _ _ _ _ _ _ _ _ hW' 
      have T37_38_40_41 : ∀ (s6 s11 s12 s13 s14 s15 s16 s17 s18 s19 s20 s21 s22 s23 s24 s25 s26 s27 s28 s29 s30 s31 s32 s33 s34 s35 s36 s37 s38 s39 s40 s41 s42 s43 s44 s45 s46 s47 s48 s49 s50 s51 s52 s53 s54 s55 s56 s57 s58 s59 s60 s61 s62 s63 s64 s65 s66 s67 s68 s69 s70 s71 s72 s73 s74 s75 s76 s77 s78 s79 s80 s81 s82 s83 s84 s85 : Value) (X : World), TlK w a b i m c d p q L Q t X → wpAny Try.prog .any ops QQ 15 (fsL 55 37 [38, 40, 41]) { tmps := #[ptV (.slice a i c) p, ptV (.slice b m d) q, tmV t, .pointer (some ⟨w.heap.size, 0, none⟩), .pointer (some ⟨w.heap.size + 1, 0, none⟩), .pointer (some ⟨w.heap.size + 1 + 1, 0, none⟩), s6, .int .i64 A, .int .i64 B, .int .i64 A, .int .i64 B, s11, s12, s13, s14, s15, s16, s17, s18, s19, s20, s21, s22, s23, s24, s25, s26, s27, s28, s29, s30, s31, s32, s33, s34, s35, s36, s37, s38, s39, s40, s41, s42, s43, s44, s45, s46, s47, s48, s49, s50, s51, s52, s53, s54, s55, s56, s57, s58, s59, s60, s61, s62, s63, s64, s65, s66, s67, s68, s69, s70, s71, s72, s73, s74, s75, s76, s77, s78, s79, s80, s81, s82, s83, s84, s85, .bool true, undef, .agg #[.slice b m d, .int .i64 q], undef, .agg #[.slice a i c, .int .i64 p], .agg #[.slice b m d, .int .i64 q], undef, undef, undef, undef, undef, undef, undef, undef, undef, undef, undef, undef], defers := [] } X := by
        as_aux_lemma =>
        intro s6 s11 s12 s13 s14 s15 s16 s17 s18 s19 s20 s21 s22 s23 s24 s25 s26 s27 s28 s29 s30 s31 s32 s33 s34 s35 s36 s37 s38 s39 s40 s41 s42 s43 s44 s45 s46 s47 s48 s49 s50 s51 s52 s53 s54 s55 s56 s57 s58 s59 s60 s61 s62 s63 s64 s65 s66 s67 s68 s69 s70 s71 s72 s73 s74 s75 s76 s77 s78 s79 s80 s81 s82 s83 s84 s85 X hW'
        obtain ⟨z0, z1, z2, z3, z4, z5, z6, z7⟩ := hW'.cells
        refine any_seg (fu := 14) (l2 := fsL 55 39 [40, 41]) [37] (by rfl) (by rw [← hops]; kernel_rfl) ?_
        obtain ⟨lz, hlz⟩ : ∃ l, atL ops [37] = l := ⟨_, rfl⟩
        rw [hlz]
        rw [← hops] at hlz
        simp only [atL, List.filterMap_cons, List.filterMap_nil, List.getElem?_toArray, List.getElem?_cons_succ, List.getElem?_cons_zero] at hlz
        subst hlz
        refine wpSeg_want (by rw [← hops]; kernel_rfl) (fun K' hK => ?_)
        go_simp
        refine hK _ _ ?_
        clear hK K'
        (try simp only [Act.put, List.setIfInBounds_toArray, List.set_cons_zero, List.set_cons_succ])
        show wpAny _ _ _ _ _ _ _ _
        exact T39_40_41 _ _ _ _ _ _ _ _ _ _ _ _ _ _ _ _ _ _ _ _ _ _ _ _ _ _ _ _ _ _ _ _ _ _ _ _ _ _ _ _ _ _ _ _ _ _ _ _ _ _ _ _ _ _ _ _ _ _ _ _ _ _ _ _ _ _ _ _ _ _ _ _ _ _ _ _ _ hW' 
      have T38_40_41 : ∀ (s6 s11 s12 s13 s14 s15 s16 s17 s18 s19 s20 s21 s22 s23 s24 s25 s26 s27 s28 s29 s30 s31 s32 s33 s34 s35 s36 s37 s38 s39 s40 s41 s42 s43 s44 s45 s46 s47 s48 s49 s50 s51 s52 s53 s54 s55 s56 s57 s58 s59 s60 s61 s62 s63 s64 s65 s66 s67 s68 s69 s70 s71 s72 s73 s74 s75 s76 s77 s78 s79 s80 s81 s82 s83 s84 s85 : Value) (X : World), TlK w a b i m c d p q L Q t X → wpAny Try.prog .any ops QQ 15 (fsL 55 38 [40, 41]) { tmps := #[ptV (.slice a i c) p, ptV (.slice b m d) q, tmV t, .pointer (some ⟨w.heap.size, 0, none⟩), .pointer (some ⟨w.heap.size + 1, 0, none⟩), .pointer (some ⟨w.heap.size + 1 + 1, 0, none⟩), s6, .int .i64 A, .int .i64 B, .int .i64 A, .int .i64 B, s11, s12, s13, s14, s15, s16, s17, s18, s19, s20, s21, s22, s23, s24, s25, s26, s27, s28, s29, s30, s31, s32, s33, s34, s35, s36, s37, s38, s39, s40, s41, s42, s43, s44, s45, s46, s47, s48, s49, s50, s51, s52, s53, s54, s55, s56, s57, s58, s59, s60, s61, s62, s63, s64, s65, s66, s67, s68, s69, s70, s71, s72, s73, s74, s75, s76, s77, s78, s79, s80, s81, s82, s83, s84, s85, .bool true, .agg #[.slice a i c, .int .i64 p], undef, undef, .agg #[.slice a i c, .int .i64 p], .agg #[.slice b m d, .int .i64 q], undef, undef, undef, undef, undef, undef, undef, undef, undef, undef, undef, undef], defers := [] } X := by
        as_aux_lemma =>
        intro s6 s11 s12 s13 s14 s15 s16 s17 s18 s19 s20 s21 s22 s23 s24 s25 s26 s27 s28 s29 s30 s31 s32 s33 s34 s35 s36 s37 s38 s39 s40 s41 s42 s43 s44 s45 s46 s47 s48 s49 s50 s51 s52 s53 s54 s55 s56 s57 s58 s59 s60 s61 s62 s63 s64 s65 s66 s67 s68 s69 s70 s71 s72 s73 s74 s75 s76 s77 s78 s79 s80 s81 s82 s83 s84 s85 X hW'
        obtain ⟨z0, z1, z2, z3, z4, z5, z6, z7⟩ := hW'.cells
        refine any_seg (fu := 14) (l2 := fsL 55 39 [40, 41]) [38] (by rfl) (by rw [← hops]; kernel_rfl) ?_
        obtain ⟨lz, hlz⟩ : ∃ l, atL ops [38] = l := ⟨_, rfl⟩
        rw [hlz]
        rw [← hops] at hlz
        simp only [atL, List.filterMap_cons, List.filterMap_nil, List.getElem?_toArray, List.getElem?_cons_succ, List.getElem?_cons_zero] at hlz
        subst hlz
        refine wpSeg_want (by rw [← hops]; kernel_rfl) (fun K' hK => ?_)
        go_simp
        refine hK _ _ ?_
        clear hK K'
        (try simp only [Act.put, List.setIfInBounds_toArray, List.set_cons_zero, List.set_cons_succ])
        show wpAny _ _ _ _ _ _ _ _
        exact T39_40_41 _ _ _ _ _ _ _ _ _ _ _ _ _ _ _ _ _ _ _ _ _ _ _ _ _ _ _ _ _ _ _ _ _ _ _ _ _ _ _ _ _ _ _ _ _ _ _ _ _ _ _ _ _ _ _ _ _ _ _ _ _ _ _ _ _ _ _ _ _ _ _ _ _ _ _ _ _ hW' 
      have T37_40_41 : ∀ (s6 s11 s12 s13 s14 s15 s16 s17 s18 s19 s20 s21 s22 s23 s24 s25 s26 s27 s28 s29 s30 s31 s32 s33 s34 s35 s36 s37 s38 s39 s40 s41 s42 s43 s44 s45 s46 s47 s48 s49 s50 s51 s52 s53 s54 s55 s56 s57 s58 s59 s60 s61 s62 s63 s64 s65 s66 s67 s68 s69 s70 s71 s72 s73 s74 s75 s76 s77 s78 s79 s80 s81 s82 s83 s84 s85 : Value) (X : World), TlK w a b i m c d p q L Q t X → wpAny Try.prog .any ops QQ 16 (fsL 55 37 [40, 41]) { tmps := #[ptV (.slice a i c) p, ptV (.slice b m d) q, tmV t, .pointer (some ⟨w.heap.size, 0, none⟩), .pointer (some ⟨w.heap.size + 1, 0, none⟩), .pointer (some ⟨w.heap.size + 1 + 1, 0, none⟩), s6, .int .i64 A, .int .i64 B, .int .i64 A, .int .i64 B, s11, s12, s13, s14, s15, s16, s17, s18, s19, s20, s21, s22, s23, s24, s25, s26, s27, s28, s29, s30, s31, s32, s33, s34, s35, s36, s37, s38, s39, s40, s41, s42, s43, s44, s45, s46, s47, s48, s49, s50, s51, s52, s53, s54, s55, s56, s57, s58, s59, s60, s61, s62, s63, s64, s65, s66, s67, s68, s69, s70, s71, s72, s73, s74, s75, s76, s77, s78, s79, s80, s81, s82, s83, s84, s85, .bool true, undef, undef, undef, .agg #[.slice a i c, .int .i64 p], .agg #[.slice b m d, .int .i64 q], undef, undef, undef, undef, undef, undef, undef, undef, undef, undef, undef, undef], defers := [] } X := by
        as_aux_lemma =>
        intro s6 s11 s12 s13 s14 s15 s16 s17 s18 s19 s20 s21 s22 s23 s24 s25 s26 s27 s28 s29 s30 s31 s32 s33 s34 s35 s36 s37 s38 s39 s40 s41 s42 s43 s44 s45 s46 s47 s48 s49 s50 s51 s52 s53 s54 s55 s56 s57 s58 s59 s60 s61 s62 s63 s64 s65 s66 s67 s68 s69 s70 s71 s72 s73 s74 s75 s76 s77 s78 s79 s80 s81 s82 s83 s84 s85 X hW'
        obtain ⟨z0, z1, z2, z3, z4, z5, z6, z7⟩ := hW'.cells
        refine any_fork (f1 := 15) [37, 38] (by rw [← hops]; kernel_rfl) (by simp) (by rw [← hops]; kernel_rfl) (by rfl) ?_
        intro ix hix
        simp only [List.mem_cons, List.not_mem_nil, or_false] at hix
        rcases hix with rfl | rfl
        · obtain ⟨lz, hlz⟩ : ∃ l, atL ops [37] = l := ⟨_, rfl⟩
          rw [hlz]
          rw [← hops] at hlz
          simp only [atL, List.filterMap_cons, List.filterMap_nil, List.getElem?_toArray, List.getElem?_cons_succ, List.getElem?_cons_zero] at hlz
          subst hlz
          refine wpSeg_want (by rw [← hops]; kernel_rfl) (fun K' hK => ?_)
          go_simp
          refine hK _ _ ?_
          clear hK K'
          (try simp only [Act.put, List.setIfInBounds_toArray, List.set_cons_zero, List.set_cons_succ])
          show wpAny _ _ _ _ _ _ _ _
          rw [show (fsL 55 37 [40, 41]).setIfInBounds 37 true = fsL 55 38 [40, 41] from by kernel_rfl]
          exact T38_40_41 _ _ _ _ _ _ _ _ _ _ _ _ _ _ _ _ _ _ _ _ _ _ _ _ _ _ _ _ _ _ _ _ _ _ _ _ _ _ _ _ _ _ _ _ _ _ _ _ _ _ _ _ _ _ _ _ _ _ _ _ _ _ _ _ _ _ _ _ _ _ _ _ _ _ _ _ _ hW' 
        · obtain ⟨lz, hlz⟩ : ∃ l, atL ops [38] = l := ⟨_, rfl⟩
          rw [hlz]
          rw [← hops] at hlz
          simp only [atL, List.filterMap_cons, List.filterMap_nil, List.getElem?_toArray, List.getElem?_cons_succ, List.getElem?_cons_zero] at hlz
          subst hlz
          refine wpSeg_want (by rw [← hops]; kernel_rfl) (fun K' hK => ?_)
          go_simp
          refine hK _ _ ?_
          clear hK K'
          (try simp only [Act.put, List.setIfInBounds_toArray, List.set_cons_zero, List.set_cons_succ])
          show wpAny _ _ _ _ _ _ _ _
          rw [show (fsL 55 37 [40, 41]).setIfInBounds 38 true = fsL 55 37 [38, 40, 41] from by kernel_rfl]
          exact T37_38_40_41 _ _ _ _ _ _ _ _ _ _ _ _ _ _ _ _ _ _ _ _ _ _ _ _ _ _ _ _ _ _ _ _ _ _ _ _ _ _ _ _ _ _ _ _ _ _ _ _ _ _ _ _ _ _ _ _ _ _ _ _ _ _ _ _ _ _ _ _ _ _ _ _ _ _ _ _ _ hW' 
      have T38_41 : ∀ (s6 s11 s12 s13 s14 s15 s16 s17 s18 s19 s20 s21 s22 s23 s24 s25 s26 s27 s28 s29 s30 s31 s32 s33 s34 s35 s36 s37 s38 s39 s40 s41 s42 s43 s44 s45 s46 s47 s48 s49 s50 s51 s52 s53 s54 s55 s56 s57 s58 s59 s60 s61 s62 s63 s64 s65 s66 s67 s68 s69 s70 s71 s72 s73 s74 s75 s76 s77 s78 s79 s80 s81 s82 s83 s84 s85 : Value) (X : World), TlK w a b i m c d p q L Q t X → wpAny Try.prog .any ops QQ 16 (fsL 55 38 [41]) { tmps := #[ptV (.slice a i c) p, ptV (.slice b m d) q, tmV t, .pointer (some ⟨w.heap.size, 0, none⟩), .pointer (some ⟨w.heap.size + 1, 0, none⟩), .pointer (some ⟨w.heap.size + 1 + 1, 0, none⟩), s6, .int .i64 A, .int .i64 B, .int .i64 A, .int .i64 B, s11, s12, s13, s14, s15, s16, s17, s18, s19, s20, s21, s22, s23, s24, s25, s26, s27, s28, s29, s30, s31, s32, s33, s34, s35, s36, s37, s38, s39, s40, s41, s42, s43, s44, s45, s46, s47, s48, s49, s50, s51, s52, s53, s54, s55, s56, s57, s58, s59, s60, s61, s62, s63, s64, s65, s66, s67, s68, s69, s70, s71, s72, s73, s74, s75, s76, s77, s78, s79, s80, s81, s82, s83, s84, s85, .bool true, .agg #[.slice a i c, .int .i64 p], undef, undef, undef, .agg #[.slice b m d, .int .i64 q], undef, undef, undef, undef, undef, undef, undef, undef, undef, undef, undef, undef], defers := [] } X := by
        as_aux_lemma =>
        intro s6 s11 s12 s13 s14 s15 s16 s17 s18 s19 s20 s21 s22 s23 s24 s25 s26 s27 s28 s29 s30 s31 s32 s33 s34 s35 s36 s37 s38 s39 s40 s41 s42 s43 s44 s45 s46 s47 s48 s49 s50 s51 s52 s53 s54 s55 s56 s57 s58 s59 s60 s61 s62 s63 s64 s65 s66 s67 s68 s69 s70 s71 s72 s73 s74 s75 s76 s77 s78 s79 s80 s81 s82 s83 s84 s85 X hW'
        obtain ⟨z0, z1, z2, z3, z4, z5, z6, z7⟩ := hW'.cells
        refine any_fork (f1 := 15) [38, 40] (by rw [← hops]; kernel_rfl) (by simp) (by rw [← hops]; kernel_rfl) (by rfl) ?_
        intro ix hix
        simp only [List.mem_cons, List.not_mem_nil, or_false] at hix
        rcases hix with rfl | rfl
        · obtain ⟨lz, hlz⟩ : ∃ l, atL ops [38] = l := ⟨_, rfl⟩
          rw [hlz]
          rw [← hops] at hlz
          simp only [atL, List.filterMap_cons, List.filterMap_nil, List.getElem?_toArray, List.getElem?_cons_succ, List.getElem?_cons_zero] at hlz
          subst hlz
          refine wpSeg_want (by rw [← hops]; kernel_rfl) (fun K' hK => ?_)
          go_simp
          refine hK _ _ ?_
          clear hK K'
          (try simp only [Act.put, List.setIfInBounds_toArray, List.set_cons_zero, List.set_cons_succ])
          show wpAny _ _ _ _ _ _ _ _
          rw [show (fsL 55 38 [41]).setIfInBounds 38 true = fsL 55 39 [41] from by kernel_rfl]
          exact T39_41 _ _ _ _ _ _ _ _ _ _ _ _ _ _ _ _ _ _ _ _ _ _ _ _ _ _ _ _ _ _ _ _ _ _ _ _ _ _ _ _ _ _ _ _ _ _ _ _ _ _ _ _ _ _ _ _ _ _ _ _ _ _ _ _ _ _ _ _ _ _ _ _ _ _ _ _ _ hW' 
        · obtain ⟨lz, hlz⟩ : ∃ l, atL ops [40] = l := ⟨_, rfl⟩
          rw [hlz]
          rw [← hops] at hlz
          simp only [atL, List.filterMap_cons, List.filterMap_nil, List.getElem?_toArray, List.getElem?_cons_succ, List.getElem?_cons_zero] at hlz
          subst hlz
          refine wpSeg_want (by rw [← hops]; kernel_rfl) (fun K' hK => ?_)
          go_simp
          refine hK _ _ ?_
          clear hK K'
          (try simp only [Act.put, List.setIfInBounds_toArray, List.set_cons_zero, List.set_cons_succ])
          show wpAny _ _ _ _ _ _ _ _
          rw [show (fsL 55 38 [41]).setIfInBounds 40 true = fsL 55 38 [40, 41] from by kernel_rfl]
          exact T38_40_41 _ _ _ _ _ _ _ _ _ _ _ _ _ _ _ _ _ _ _ _ _ _ _ _ _ _ _ _ _ _ _ _ _ _ _ _ _ _ _ _ _ _ _ _ _ _ _ _ _ _ _ _ _ _ _ _ _ _ _ _ _ _ _ _ _ _ _ _ _ _ _ _ _ _ _ _ _ hW' 
      have T39 : ∀ (s6 s11 s12 s13 s14 s15 s16 s17 s18 s19 s20 s21 s22 s23 s24 s25 s26 s27 s28 s29 s30 s31 s32 s33 s34 s35 s36 s37 s38 s39 s40 s41 s42 s43 s44 s45 s46 s47 s48 s49 s50 s51 s52 s53 s54 s55 s56 s57 s58 s59 s60 s61 s62 s63 s64 s65 s66 s67 s68 s69 s70 s71 s72 s73 s74 s75 s76 s77 s78 s79 s80 s81 s82 s83 s84 s85 : Value) (X : World), TlK w a b i m c d p q L Q t X → wpAny Try.prog .any ops QQ 16 (fsL 55 39 []) { tmps := #[ptV (.slice a i c) p, ptV (.slice b m d) q, tmV t, .pointer (some ⟨w.heap.size, 0, none⟩), .pointer (some ⟨w.heap.size + 1, 0, none⟩), .pointer (some ⟨w.heap.size + 1 + 1, 0, none⟩), s6, .int .i64 A, .int .i64 B, .int .i64 A, .int .i64 B, s11, s12, s13, s14, s15, s16, s17, s18, s19, s20, s21, s22, s23, s24, s25, s26, s27, s28, s29, s30, s31, s32, s33, s34, s35, s36, s37, s38, s39, s40, s41, s42, s43, s44, s45, s46, s47, s48, s49, s50, s51, s52, s53, s54, s55, s56, s57, s58, s59, s60, s61, s62, s63, s64, s65, s66, s67, s68, s69, s70, s71, s72, s73, s74, s75, s76, s77, s78, s79, s80, s81, s82, s83, s84, s85, .bool true, .agg #[.slice a i c, .int .i64 p], .agg #[.slice b m d, .int .i64 q], undef, undef, undef, undef, undef, undef, undef, undef, undef, undef, undef, undef, undef, undef, undef], defers := [] } X := by
        as_aux_lemma =>
        intro s6 s11 s12 s13 s14 s15 s16 s17 s18 s19 s20 s21 s22 s23 s24 s25 s26 s27 s28 s29 s30 s31 s32 s33 s34 s35 s36 s37 s38 s39 s40 s41 s42 s43 s44 s45 s46 s47 s48 s49 s50 s51 s52 s53 s54 s55 s56 s57 s58 s59 s60 s61 s62 s63 s64 s65 s66 s67 s68 s69 s70 s71 s72 s73 s74 s75 s76 s77 s78 s79 s80 s81 s82 s83 s84 s85 X hW'
        obtain ⟨z0, z1, z2, z3, z4, z5, z6, z7⟩ := hW'.cells
        refine any_fork (f1 := 15) [39, 40, 41] (by rw [← hops]; kernel_rfl) (by simp) (by rw [← hops]; kernel_rfl) (by rfl) ?_
        intro ix hix
        simp only [List.mem_cons, List.not_mem_nil, or_false] at hix
        rcases hix with rfl | rfl | rfl
        · obtain ⟨lz, hlz⟩ : ∃ l, atL ops [39] = l := ⟨_, rfl⟩
          rw [hlz]
          rw [← hops] at hlz
          simp only [atL, List.filterMap_cons, List.filterMap_nil, List.getElem?_toArray, List.getElem?_cons_succ, List.getElem?_cons_zero] at hlz
          subst hlz
          refine wpSeg_want (by rw [← hops]; kernel_rfl) (fun K' hK => ?_)
          go_simp
          refine (D39.out _ hW').mono ?_
          rintro e Xa ⟨rfl, hW', hb⟩
          dsimp only
          refine hK _ _ ?_
          clear hK K'
          (try simp only [Act.put, List.setIfInBounds_toArray, List.set_cons_zero, List.set_cons_succ])
          clear z0 z1 z2 z3 z4 z5 z6 z7
          obtain ⟨z0, z1, z2, z3, z4, z5, z6, z7⟩ := hW'.cells
          show wpAny _ _ _ _ _ _ _ _
          rw [show (fsL 55 39 []).setIfInBounds 39 true = fsL 55 40 [] from by kernel_rfl]
          exact T40 _ _ _ _ _ _ _ _ _ _ _ _ _ _ _ _ _ _ _ _ _ _ _ _ _ _ _ _ _ _ _ _ _ _ _ _ _ _ _ _ _ _ _ _ _ _ _ _ _ _ _ _ _ _ _ _ _ _ _ _ _ _ _ _ _ _ _ _ _ _ _ _ _ _ _ _ _ _ _ hW' 
        · obtain ⟨lz, hlz⟩ : ∃ l, atL ops [40] = l := ⟨_, rfl⟩
          rw [hlz]
          rw [← hops] at hlz
          simp only [atL, List.filterMap_cons, List.filterMap_nil, List.getElem?_toArray, List.getElem?_cons_succ, List.getElem?_cons_zero] at hlz
          subst hlz
          refine wpSeg_want (by rw [← hops]; kernel_rfl) (fun K' hK => ?_)
          go_simp
          refine hK _ _ ?_
          clear hK K'
          (try simp only [Act.put, List.setIfInBounds_toArray, List.set_cons_zero, List.set_cons_succ])
          show wpAny _ _ _ _ _ _ _ _
          rw [show (fsL 55 39 []).setIfInBounds 40 true = fsL 55 39 [40] from by kernel_rfl]
          exact T39_40 _ _ _ _ _ _ _ _ _ _ _ _ _ _ _ _ _ _ _ _ _ _ _ _ _ _ _ _ _ _ _ _ _ _ _ _ _ _ _ _ _ _ _ _ _ _ _ _ _ _ _ _ _ _ _ _ _ _ _ _ _ _ _ _ _ _ _ _ _ _ _ _ _ _ _ _ _ hW' 
        · obtain ⟨lz, hlz⟩ : ∃ l, atL ops [41] = l := ⟨_, rfl⟩
          rw [hlz]
          rw [← hops] at hlz
          simp only [atL, List.filterMap_cons, List.filterMap_nil, List.getElem?_toArray, List.getElem?_cons_succ, List.getElem?_cons_zero] at hlz
          subst hlz
          refine wpSeg_want (by rw [← hops]; kernel_rfl) (fun K' hK => ?_)
          go_simp
          refine hK _ _ ?_
          clear hK K'
          (try simp only [Act.put, List.setIfInBounds_toArray, List.set_cons_zero, List.set_cons_succ])
          show wpAny _ _ _ _ _ _ _ _
          rw [show (fsL 55 39 []).setIfInBounds 41 true = fsL 55 39 [41] from by kernel_rfl]
          exact T39_41 _ _ _ _ _ _ _ _ _ _ _ _ _ _ _ _ _ _ _ _ _ _ _ _ _ _ _ _ _ _ _ _ _ _ _ _ _ _ _ _ _ _ _ _ _ _ _ _ _ _ _ _ _ _ _ _ _ _ _ _ _ _ _ _ _ _ _ _ _ _ _ _ _ _ _ _ _ hW' 
      have T37_38_40 : ∀ (s6 s11 s12 s13 s14 s15 s16 s17 s18 s19 s20 s21 s22 s23 s24 s25 s26 s27 s28 s29 s30 s31 s32 s33 s34 s35 s36 s37 s38 s39 s40 s41 s42 s43 s44 s45 s46 s47 s48 s49 s50 s51 s52 s53 s54 s55 s56 s57 s58 s59 s60 s61 s62 s63 s64 s65 s66 s67 s68 s69 s70 s71 s72 s73 s74 s75 s76 s77 s78 s79 s80 s81 s82 s83 s84 s85 : Value) (X : World), TlK w a b i m c d p q L Q t X → wpAny Try.prog .any ops QQ 16 (fsL 55 37 [38, 40]) { tmps := #[ptV (.slice a i c) p, ptV (.slice b m d) q, tmV t, .pointer (some ⟨w.heap.size, 0, none⟩), .pointer (some ⟨w.heap.size + 1, 0, none⟩), .pointer (some ⟨w.heap.size + 1 + 1, 0, none⟩), s6, .int .i64 A, .int .i64 B, .int .i64 A, .int .i64 B, s11, s12, s13, s14, s15, s16, s17, s18, s19, s20, s21, s22, s23, s24, s25, s26, s27, s28, s29, s30, s31, s32, s33, s34, s35, s36, s37, s38, s39, s40, s41, s42, s43, s44, s45, s46, s47, s48, s49, s50, s51, s52, s53, s54, s55, s56, s57, s58, s59, s60, s61, s62, s63, s64, s65, s66, s67, s68, s69, s70, s71, s72, s73, s74, s75, s76, s77, s78, s79, s80, s81, s82, s83, s84, s85, .bool true, undef, .agg #[.slice b m d, .int .i64 q], undef, .agg #[.slice a i c, .int .i64 p], undef, undef, undef, undef, undef, undef, undef, undef, undef, undef, undef, undef, undef], defers := [] } X := by
        as_aux_lemma =>
        intro s6 s11 s12 s13 s14 s15 s16 s17 s18 s19 s20 s21 s22 s23 s24 s25 s26 s27 s28 s29 s30 s31 s32 s33 s34 s35 s36 s37 s38 s39 s40 s41 s42 s43 s44 s45 s46 s47 s48 s49 s50 s51 s52 s53 s54 s55 s56 s57 s58 s59 s60 s61 s62 s63 s64 s65 s66 s67 s68 s69 s70 s71 s72 s73 s74 s75 s76 s77 s78 s79 s80 s81 s82 s83 s84 s85 X hW'
        obtain ⟨z0, z1, z2, z3, z4, z5, z6, z7⟩ := hW'.cells
        refine any_fork (f1 := 15) [37, 41] (by rw [← hops]; kernel_rfl) (by simp) (by rw [← hops]; kernel_rfl) (by rfl) ?_
        intro ix hix
        simp only [List.mem_cons, List.not_mem_nil, or_false] at hix
        rcases hix with rfl | rfl
        · obtain ⟨lz, hlz⟩ : ∃ l, atL ops [37] = l := ⟨_, rfl⟩
          rw [hlz]
          rw [← hops] at hlz
          simp only [atL, List.filterMap_cons, List.filterMap_nil, List.getElem?_toArray, List.getElem?_cons_succ, List.getElem?_cons_zero] at hlz
          subst hlz
          refine wpSeg_want (by rw [← hops]; kernel_rfl) (fun K' hK => ?_)
          go_simp
          refine hK _ _ ?_
          clear hK K'
          (try simp only [Act.put, List.setIfInBounds_toArray, List.set_cons_zero, List.set_cons_succ])
          show wpAny _ _ _ _ _ _ _ _
          rw [show (fsL 55 37 [38, 40]).setIfInBounds 37 true = fsL 55 39 [40] from by kernel_rfl]
          exact T39_40 _ _ _ _ _ _ _ _ _ _ _ _ _ _ _ _ _ _ _ _ _ _ _ _ _ _ _ _ _ _ _ _ _ _ _ _ _ _ _ _ _ _ _ _ _ _ _ _ _ _ _ _ _ _ _ _ _ _ _ _ _ _ _ _ _ _ _ _ _ _ _ _ _ _ _ _ _ hW' 
        · obtain ⟨lz, hlz⟩ : ∃ l, atL ops [41] = l := ⟨_, rfl⟩
          rw [hlz]
          rw [← hops] at hlz
          simp only [atL, List.filterMap_cons, List.filterMap_nil, List.getElem?_toArray, List.getElem?_cons_succ, List.getElem?_cons_zero] at hlz
          subst hlz
          refine wpSeg_want (by rw [← hops]; kernel_rfl) (fun K' hK => ?_)
          go_simp
          refine hK _ _ ?_
          clear hK K'
          (try simp only [Act.put, List.setIfInBounds_toArray, List.set_cons_zero, List.set_cons_succ])
          show wpAny _ _ _ _ _ _ _ _
          rw [show (fsL 55 37 [38, 40]).setIfInBounds 41 true = fsL 55 37 [38, 40, 41] from by kernel_rfl]
          exact T37_38_40_41 _ _ _ _ _ _ _ _ _ _ _ _ _ _ _ _ _ _ _ _ _ _ _ _ _ _ _ _ _ _ _ _ _ _ _ _ _ _ _ _ _ _ _ _ _ _ _ _ _ _ _ _ _ _ _ _ _ _ _ _ _ _ _ _ _ _ _ _ _ _ _ _ _ _ _ _ _ hW' 
      have T38_40 : ∀ (s6 s11 s12 s13 s14 s15 s16 s17 s18 s19 s20 s21 s22 s23 s24 s25 s26 s27 s28 s29 s30 s31 s32 s33 s34 s35 s36 s37 s38 s39 s40 s41 s42 s43 s44 s45 s46 s47 s48 s49 s50 s51 s52 s53 s54 s55 s56 s57 s58 s59 s60 s61 s62 s63 s64 s65 s66 s67 s68 s69 s70 s71 s72 s73 s74 s75 s76 s77 s78 s79 s80 s81 s82 s83 s84 s85 : Value) (X : World), TlK w a b i m c d p q L Q t X → wpAny Try.prog .any ops QQ 16 (fsL 55 38 [40]) { tmps := #[ptV (.slice a i c) p, ptV (.slice b m d) q, tmV t, .pointer (some ⟨w.heap.size, 0, none⟩), .pointer (some ⟨w.heap.size + 1, 0, none⟩), .pointer (some ⟨w.heap.size + 1 + 1, 0, none⟩), s6, .int .i64 A, .int .i64 B, .int .i64 A, .int .i64 B, s11, s12, s13, s14, s15, s16, s17, s18, s19, s20, s21, s22, s23, s24, s25, s26, s27, s28, s29, s30, s31, s32, s33, s34, s35, s36, s37, s38, s39, s40, s41, s42, s43, s44, s45, s46, s47, s48, s49, s50, s51, s52, s53, s54, s55, s56, s57, s58, s59, s60, s61, s62, s63, s64, s65, s66, s67, s68, s69, s70, s71, s72, s73, s74, s75, s76, s77, s78, s79, s80, s81, s82, s83, s84, s85, .bool true, .agg #[.slice a i c, .int .i64 p], undef, undef, .agg #[.slice a i c, .int .i64 p], undef, undef, undef, undef, undef, undef, undef, undef, undef, undef, undef, undef, undef], defers := [] } X := by
        as_aux_lemma =>
        intro s6 s11 s12 s13 s14 s15 s16 s17 s18 s19 s20 s21 s22 s23 s24 s25 s26 s27 s28 s29 s30 s31 s32 s33 s34 s35 s36 s37 s38 s39 s40 s41 s42 s43 s44 s45 s46 s47 s48 s49 s50 s51 s52 s53 s54 s55 s56 s57 s58 s59 s60 s61 s62 s63 s64 s65 s66 s67 s68 s69 s70 s71 s72 s73 s74 s75 s76 s77 s78 s79 s80 s81 s82 s83 s84 s85 X hW'
        obtain ⟨z0, z1, z2, z3, z4, z5, z6, z7⟩ := hW'.cells
        refine any_fork (f1 := 15) [38, 41] (by rw [← hops]; kernel_rfl) (by simp) (by rw [← hops]; kernel_rfl) (by rfl) ?_
        intro ix hix
        simp only [List.mem_cons, List.not_mem_nil, or_false] at hix
        rcases hix with rfl | rfl
        · obtain ⟨lz, hlz⟩ : ∃ l, atL ops [38] = l := ⟨_, rfl⟩
          rw [hlz]
          rw [← hops] at hlz
          simp only [atL, List.filterMap_cons, List.filterMap_nil, List.getElem?_toArray, List.getElem?_cons_succ, List.getElem?_cons_zero] at hlz
          subst hlz
          refine wpSeg_want (by rw [← hops]; kernel_rfl) (fun K' hK => ?_)
          go_simp
          refine hK _ _ ?_
          clear hK K'
          (try simp only [Act.put, List.setIfInBounds_toArray, List.set_cons_zero, List.set_cons_succ])
          show wpAny _ _ _ _ _ _ _ _
          rw [show (fsL 55 38 [40]).setIfInBounds 38 true = fsL 55 39 [40] from by kernel_rfl]
          exact T39_40 _ _ _ _ _ _ _ _ _ _ _ _ _ _ _ _ _ _ _ _ _ _ _ _ _ _ _ _ _ _ _ _ _ _ _ _ _ _ _ _ _ _ _ _ _ _ _ _ _ _ _ _ _ _ _ _ _ _ _ _ _ _ _ _ _ _ _ _ _ _ _ _ _ _ _ _ _ hW' 
        · obtain ⟨lz, hlz⟩ : ∃ l, atL ops [41] = l := ⟨_, rfl⟩
          rw [hlz]
          rw [← hops] at hlz
          simp only [atL, List.filterMap_cons, List.filterMap_nil, List.getElem?_toArray, List.getElem?_cons_succ, List.getElem?_cons_zero] at hlz
          subst hlz
          refine wpSeg_want (by rw [← hops]; kernel_rfl) (fun K' hK => ?_)
          go_simp
          refine hK _ _ ?_
          clear hK K'
          (try simp only [Act.put, List.setIfInBounds_toArray, List.set_cons_zero, List.set_cons_succ])
          show wpAny _ _ _ _ _ _ _ _
          rw [show (fsL 55 38 [40]).setIfInBounds 41 true = fsL 55 38 [40, 41] from by kernel_rfl]
          exact T38_40_41 _ _ _ _ _ _ _ _ _ _ _ _ _ _ _ _ _ _ _ _ _ _ _ _ _ _ _ _ _ _ _ _ _ _ _ _ _ _ _ _ _ _ _ _ _ _ _ _ _ _ _ _ _ _ _ _ _ _ _ _ _ _ _ _ _ _ _ _ _ _ _ _ _ _ _ _ _ hW' 
      have T37_38_41 : ∀ (s6 s11 s12 s13 s14 s15 s16 s17 s18 s19 s20 s21 s22 s23 s24 s25 s26 s27 s28 s29 s30 s31 s32 s33 s34 s35 s36 s37 s38 s39 s40 s41 s42 s43 s44 s45 s46 s47 s48 s49 s50 s51 s52 s53 s54 s55 s56 s57 s58 s59 s60 s61 s62 s63 s64 s65 s66 s67 s68 s69 s70 s71 s72 s73 s74 s75 s76 s77 s78 s79 s80 s81 s82 s83 s84 s85 : Value) (X : World), TlK w a b i m c d p q L Q t X → wpAny Try.prog .any ops QQ 16 (fsL 55 37 [38, 41]) { tmps := #[ptV (.slice a i c) p, ptV (.slice b m d) q, tmV t, .pointer (some ⟨w.heap.size, 0, none⟩), .pointer (some ⟨w.heap.size + 1, 0, none⟩), .pointer (some ⟨w.heap.size + 1 + 1, 0, none⟩), s6, .int .i64 A, .int .i64 B, .int .i64 A, .int .i64 B, s11, s12, s13, s14, s15, s16, s17, s18, s19, s20, s21, s22, s23, s24, s25, s26, s27, s28, s29, s30, s31, s32, s33, s34, s35, s36, s37, s38, s39, s40, s41, s42, s43, s44, s45, s46, s47, s48, s49, s50, s51, s52, s53, s54, s55, s56, s57, s58, s59, s60, s61, s62, s63, s64, s65, s66, s67, s68, s69, s70, s71, s72, s73, s74, s75, s76, s77, s78, s79, s80, s81, s82, s83, s84, s85, .bool true, undef, .agg #[.slice b m d, .int .i64 q], undef, undef, .agg #[.slice b m d, .int .i64 q], undef, undef, undef, undef, undef, undef, undef, undef, undef, undef, undef, undef], defers := [] } X := by
        as_aux_lemma =>
        intro s6 s11 s12 s13 s14 s15 s16 s17 s18 s19 s20 s21 s22 s23 s24 s25 s26 s27 s28 s29 s30 s31 s32 s33 s34 s35 s36 s37 s38 s39 s40 s41 s42 s43 s44 s45 s46 s47 s48 s49 s50 s51 s52 s53 s54 s55 s56 s57 s58 s59 s60 s61 s62 s63 s64 s65 s66 s67 s68 s69 s70 s71 s72 s73 s74 s75 s76 s77 s78 s79 s80 s81 s82 s83 s84 s85 X hW'
        obtain ⟨z0, z1, z2, z3, z4, z5, z6, z7⟩ := hW'.cells
        refine any_fork (f1 := 15) [37, 40] (by rw [← hops]; kernel_rfl) (by simp) (by rw [← hops]; kernel_rfl) (by rfl) ?_
        intro ix hix
        simp only [List.mem_cons, List.not_mem_nil, or_false] at hix
        rcases hix with rfl | rfl
        · obtain ⟨lz, hlz⟩ : ∃ l, atL ops [37] = l := ⟨_, rfl⟩
          rw [hlz]
          rw [← hops] at hlz
          simp only [atL, List.filterMap_cons, List.filterMap_nil, List.getElem?_toArray, List.getElem?_cons_succ, List.getElem?_cons_zero] at hlz
          subst hlz
          refine wpSeg_want (by rw [← hops]; kernel_rfl) (fun K' hK => ?_)
          go_simp
          refine hK _ _ ?_
          clear hK K'
          (try simp only [Act.put, List.setIfInBounds_toArray, List.set_cons_zero, List.set_cons_succ])
          show wpAny _ _ _ _ _ _ _ _
          rw [show (fsL 55 37 [38, 41]).setIfInBounds 37 true = fsL 55 39 [41] from by kernel_rfl]
          exact T39_41 _ _ _ _ _ _ _ _ _ _ _ _ _ _ _ _ _ _ _ _ _ _ _ _ _ _ _ _ _ _ _ _ _ _ _ _ _ _ _ _ _ _ _ _ _ _ _ _ _ _ _ _ _ _ _ _ _ _ _ _ _ _ _ _ _ _ _ _ _ _ _ _ _ _ _ _ _ hW' 
        · obtain ⟨lz, hlz⟩ : ∃ l, atL ops [40] = l := ⟨_, rfl⟩
          rw [hlz]
          rw [← hops] at hlz
          simp only [atL, List.filterMap_cons, List.filterMap_nil, List.getElem?_toArray, List.getElem?_cons_succ, List.getElem?_cons_zero] at hlz
          subst hlz
          refine wpSeg_want (by rw [← hops]; kernel_rfl) (fun K' hK => ?_)
          go_simp
          refine hK _ _ ?_
          clear hK K'
          (try simp only [Act.put, List.setIfInBounds_toArray, List.set_cons_zero, List.set_cons_succ])
          show wpAny _ _ _ _ _ _ _ _
          rw [show (fsL 55 37 [38, 41]).setIfInBounds 40 true = fsL 55 37 [38, 40, 41] from by kernel_rfl]
          exact T37_38_40_41 _ _ _ _ _ _ _ _ _ _ _ _ _ _ _ _ _ _ _ _ _ _ _ _ _ _ _ _ _ _ _ _ _ _ _ _ _ _ _ _ _ _ _ _ _ _ _ _ _ _ _ _ _ _ _ _ _ _ _ _ _ _ _ _ _ _ _ _ _ _ _ _ _ _ _ _ _ hW' 
      have T37_40 : ∀ (s6 s11 s12 s13 s14 s15 s16 s17 s18 s19 s20 s21 s22 s23 s24 s25 s26 s27 s28 s29 s30 s31 s32 s33 s34 s35 s36 s37 s38 s39 s40 s41 s42 s43 s44 s45 s46 s47 s48 s49 s50 s51 s52 s53 s54 s55 s56 s57 s58 s59 s60 s61 s62 s63 s64 s65 s66 s67 s68 s69 s70 s71 s72 s73 s74 s75 s76 s77 s78 s79 s80 s81 s82 s83 s84 s85 : Value) (X : World), TlK w a b i m c d p q L Q t X → wpAny Try.prog .any ops QQ 17 (fsL 55 37 [40]) { tmps := #[ptV (.slice a i c) p, ptV (.slice b m d) q, tmV t, .pointer (some ⟨w.heap.size, 0, none⟩), .pointer (some ⟨w.heap.size + 1, 0, none⟩), .pointer (some ⟨w.heap.size + 1 + 1, 0, none⟩), s6, .int .i64 A, .int .i64 B, .int .i64 A, .int .i64 B, s11, s12, s13, s14, s15, s16, s17, s18, s19, s20, s21, s22, s23, s24, s25, s26, s27, s28, s29, s30, s31, s32, s33, s34, s35, s36, s37, s38, s39, s40, s41, s42, s43, s44, s45, s46, s47, s48, s49, s50, s51, s52, s53, s54, s55, s56, s57, s58, s59, s60, s61, s62, s63, s64, s65, s66, s67, s68, s69, s70, s71, s72, s73, s74, s75, s76, s77, s78, s79, s80, s81, s82, s83, s84, s85, .bool true, undef, undef, undef, .agg #[.slice a i c, .int .i64 p], undef, undef, undef, undef, undef, undef, undef, undef, undef, undef, undef, undef, undef], defers := [] } X := by
        as_aux_lemma =>
        intro s6 s11 s12 s13 s14 s15 s16 s17 s18 s19 s20 s21 s22 s23 s24 s25 s26 s27 s28 s29 s30 s31 s32 s33 s34 s35 s36 s37 s38 s39 s40 s41 s42 s43 s44 s45 s46 s47 s48 s49 s50 s51 s52 s53 s54 s55 s56 s57 s58 s59 s60 s61 s62 s63 s64 s65 s66 s67 s68 s69 s70 s71 s72 s73 s74 s75 s76 s77 s78 s79 s80 s81 s82 s83 s84 s85 X hW'
        obtain ⟨z0, z1, z2, z3, z4, z5, z6, z7⟩ := hW'.cells
        refine any_fork (f1 := 16) [37, 38, 41] (by rw [← hops]; kernel_rfl) (by simp) (by rw [← hops]; kernel_rfl) (by rfl) ?_
        intro ix hix
        simp only [List.mem_cons, List.not_mem_nil, or_false] at hix
        rcases hix with rfl | rfl | rfl
        · obtain ⟨lz, hlz⟩ : ∃ l, atL ops [37] = l := ⟨_, rfl⟩
          rw [hlz]
          rw [← hops] at hlz
          simp only [atL, List.filterMap_cons, List.filterMap_nil, List.getElem?_toArray, List.getElem?_cons_succ, List.getElem?_cons_zero] at hlz
          subst hlz
          refine wpSeg_want (by rw [← hops]; kernel_rfl) (fun K' hK => ?_)
          go_simp
          refine hK _ _ ?_
          clear hK K'
          (try simp only [Act.put, List.setIfInBounds_toArray, List.set_cons_zero, List.set_cons_succ])
          show wpAny _ _ _ _ _ _ _ _
          rw [show (fsL 55 37 [40]).setIfInBounds 37 true = fsL 55 38 [40] from by kernel_rfl]
          exact T38_40 _ _ _ _ _ _ _ _ _ _ _ _ _ _ _ _ _ _ _ _ _ _ _ _ _ _ _ _ _ _ _ _ _ _ _ _ _ _ _ _ _ _ _ _ _ _ _ _ _ _ _ _ _ _ _ _ _ _ _ _ _ _ _ _ _ _ _ _ _ _ _ _ _ _ _ _ _ hW' 
        · obtain ⟨lz, hlz⟩ : ∃ l, atL ops [38] = l := ⟨_, rfl⟩
          rw [hlz]
          rw [← hops] at hlz
          simp only [atL, List.filterMap_cons, List.filterMap_nil, List.getElem?_toArray, List.getElem?_cons_succ, List.getElem?_cons_zero] at hlz
          subst hlz
          refine wpSeg_want (by rw [← hops]; kernel_rfl) (fun K' hK => ?_)
          go_simp
          refine hK _ _ ?_
          clear hK K'
          (try simp only [Act.put, List.setIfInBounds_toArray, List.set_cons_zero, List.set_cons_succ])
          show wpAny _ _ _ _ _ _ _ _
          rw [show (fsL 55 37 [40]).setIfInBounds 38 true = fsL 55 37 [38, 40] from by kernel_rfl]
          exact T37_38_40 _ _ _ _ _ _ _ _ _ _ _ _ _ _ _ _ _ _ _ _ _ _ _ _ _ _ _ _ _ _ _ _ _ _ _ _ _ _ _ _ _ _ _ _ _ _ _ _ _ _ _ _ _ _ _ _ _ _ _ _ _ _ _ _ _ _ _ _ _ _ _ _ _ _ _ _ _ hW' 
        · obtain ⟨lz, hlz⟩ : ∃ l, atL ops [41] = l := ⟨_, rfl⟩
          rw [hlz]
          rw [← hops] at hlz
          simp only [atL, List.filterMap_cons, List.filterMap_nil, List.getElem?_toArray, List.getElem?_cons_succ, List.getElem?_cons_zero] at hlz
          subst hlz
          refine wpSeg_want (by rw [← hops]; kernel_rfl) (fun K' hK => ?_)
          go_simp
          refine hK _ _ ?_
          clear hK K'
          (try simp only [Act.put, List.setIfInBounds_toArray, List.set_cons_zero, List.set_cons_succ])
          show wpAny _ _ _ _ _ _ _ _
          rw [show (fsL 55 37 [40]).setIfInBounds 41 true = fsL 55 37 [40, 41] from by kernel_rfl]
          exact T37_40_41 _ _ _ _ _ _ _ _ _ _ _ _ _ _ _ _ _ _ _ _ _ _ _ _ _ _ _ _ _ _ _ _ _ _ _ _ _ _ _ _ _ _ _ _ _ _ _ _ _ _ _ _ _ _ _ _ _ _ _ _ _ _ _ _ _ _ _ _ _ _ _ _ _ _ _ _ _ hW' 
      have T38 : ∀ (s6 s11 s12 s13 s14 s15 s16 s17 s18 s19 s20 s21 s22 s23 s24 s25 s26 s27 s28 s29 s30 s31 s32 s33 s34 s35 s36 s37 s38 s39 s40 s41 s42 s43 s44 s45 s46 s47 s48 s49 s50 s51 s52 s53 s54 s55 s56 s57 s58 s59 s60 s61 s62 s63 s64 s65 s66 s67 s68 s69 s70 s71 s72 s73 s74 s75 s76 s77 s78 s79 s80 s81 s82 s83 s84 s85 : Value) (X : World), TlK w a b i m c d p q L Q t X → wpAny Try.prog .any ops QQ 17 (fsL 55 38 []) { tmps := #[ptV (.slice a i c) p, ptV (.slice b m d) q, tmV t, .pointer (some ⟨w.heap.size, 0, none⟩), .pointer (some ⟨w.heap.size + 1, 0, none⟩), .pointer (some ⟨w.heap.size + 1 + 1, 0, none⟩), s6, .int .i64 A, .int .i64 B, .int .i64 A, .int .i64 B, s11, s12, s13, s14, s15, s16, s17, s18, s19, s20, s21, s22, s23, s24, s25, s26, s27, s28, s29, s30, s31, s32, s33, s34, s35, s36, s37, s38, s39, s40, s41, s42, s43, s44, s45, s46, s47, s48, s49, s50, s51, s52, s53, s54, s55, s56, s57, s58, s59, s60, s61, s62, s63, s64, s65, s66, s67, s68, s69, s70, s71, s72, s73, s74, s75, s76, s77, s78, s79, s80, s81, s82, s83, s84, s85, .bool true, .agg #[.slice a i c, .int .i64 p], undef, undef, undef, undef, undef, undef, undef, undef, undef, undef, undef, undef, undef, undef, undef, undef], defers := [] } X := by
        as_aux_lemma =>
        intro s6 s11 s12 s13 s14 s15 s16 s17 s18 s19 s20 s21 s22 s23 s24 s25 s26 s27 s28 s29 s30 s31 s32 s33 s34 s35 s36 s37 s38 s39 s40 s41 s42 s43 s44 s45 s46 s47 s48 s49 s50 s51 s52 s53 s54 s55 s56 s57 s58 s59 s60 s61 s62 s63 s64 s65 s66 s67 s68 s69 s70 s71 s72 s73 s74 s75 s76 s77 s78 s79 s80 s81 s82 s83 s84 s85 X hW'
        obtain ⟨z0, z1, z2, z3, z4, z5, z6, z7⟩ := hW'.cells
        refine any_fork (f1 := 16) [38, 40, 41] (by rw [← hops]; kernel_rfl) (by simp) (by rw [← hops]; kernel_rfl) (by rfl) ?_
        intro ix hix
        simp only [List.mem_cons, List.not_mem_nil, or_false] at hix
        rcases hix with rfl | rfl | rfl
        · obtain ⟨lz, hlz⟩ : ∃ l, atL ops [38] = l := ⟨_, rfl⟩
          rw [hlz]
          rw [← hops] at hlz
          simp only [atL, List.filterMap_cons, List.filterMap_nil, List.getElem?_toArray, List.getElem?_cons_succ, List.getElem?_cons_zero] at hlz
          subst hlz
          refine wpSeg_want (by rw [← hops]; kernel_rfl) (fun K' hK => ?_)
          go_simp
          refine hK _ _ ?_
          clear hK K'
          (try simp only [Act.put, List.setIfInBounds_toArray, List.set_cons_zero, List.set_cons_succ])
          show wpAny _ _ _ _ _ _ _ _
          rw [show (fsL 55 38 []).setIfInBounds 38 true = fsL 55 39 [] from by kernel_rfl]
          exact T39 _ _ _ _ _ _ _ _ _ _ _ _ _ _ _ _ _ _ _ _ _ _ _ _ _ _ _ _ _ _ _ _ _ _ _ _ _ _ _ _ _ _ _ _ _ _ _ _ _ _ _ _ _ _ _ _ _ _ _ _ _ _ _ _ _ _ _ _ _ _ _ _ _ _ _ _ _ hW' 
        · obtain ⟨lz, hlz⟩ : ∃ l, atL ops [40] = l := ⟨_, rfl⟩
          rw [hlz]
          rw [← hops] at hlz
          simp only [atL, List.filterMap_cons, List.filterMap_nil, List.getElem?_toArray, List.getElem?_cons_succ, List.getElem?_cons_zero] at hlz
          subst hlz
          refine wpSeg_want (by rw [← hops]; kernel_rfl) (fun K' hK => ?_)
          go_simp
          refine hK _ _ ?_
          clear hK K'
          (try simp only [Act.put, List.setIfInBounds_toArray, List.set_cons_zero, List.set_cons_succ])
          show wpAny _ _ _ _ _ _ _ _
          rw [show (fsL 55 38 []).setIfInBounds 40 true = fsL 55 38 [40] from by kernel_rfl]
          exact T38_40 _ _ _ _ _ _ _ _ _ _ _ _ _ _ _ _ _ _ _ _ _ _ _ _ _ _ _ _ _ _ _ _ _ _ _ _ _ _ _ _ _ _ _ _ _ _ _ _ _ _ _ _ _ _ _ _ _ _ _ _ _ _ _ _ _ _ _ _ _ _ _ _ _ _ _ _ _ hW' 
        · obtain ⟨lz, hlz⟩ : ∃ l, atL ops [41] = l := ⟨_, rfl⟩
          rw [hlz]
          rw [← hops] at hlz
          simp only [atL, List.filterMap_cons, List.filterMap_nil, List.getElem?_toArray, List.getElem?_cons_succ, List.getElem?_cons_zero] at hlz
          subst hlz
          refine wpSeg_want (by rw [← hops]; kernel_rfl) (fun K' hK => ?_)
          go_simp
          refine hK _ _ ?_
          clear hK K'
          (try simp only [Act.put, List.setIfInBounds_toArray, List.set_cons_zero, List.set_cons_succ])
          show wpAny _ _ _ _ _ _ _ _
          rw [show (fsL 55 38 []).setIfInBounds 41 true = fsL 55 38 [41] from by kernel_rfl]
          exact T38_41 _ _ _ _ _ _ _ _ _ _ _ _ _ _ _ _ _ _ _ _ _ _ _ _ _ _ _ _ _ _ _ _ _ _ _ _ _ _ _ _ _ _ _ _ _ _ _ _ _ _ _ _ _ _ _ _ _ _ _ _ _ _ _ _ _ _ _ _ _ _ _ _ _ _ _ _ _ hW' 
      have T37_41 : ∀ (s6 s11 s12 s13 s14 s15 s16 s17 s18 s19 s20 s21 s22 s23 s24 s25 s26 s27 s28 s29 s30 s31 s32 s33 s34 s35 s36 s37 s38 s39 s40 s41 s42 s43 s44 s45 s46 s47 s48 s49 s50 s51 s52 s53 s54 s55 s56 s57 s58 s59 s60 s61 s62 s63 s64 s65 s66 s67 s68 s69 s70 s71 s72 s73 s74 s75 s76 s77 s78 s79 s80 s81 s82 s83 s84 s85 : Value) (X : World), TlK w a b i m c d p q L Q t X → wpAny Try.prog .any ops QQ 17 (fsL 55 37 [41]) { tmps := #[ptV (.slice a i c) p, ptV (.slice b m d) q, tmV t, .pointer (some ⟨w.heap.size, 0, none⟩), .pointer (some ⟨w.heap.size + 1, 0, none⟩), .pointer (some ⟨w.heap.size + 1 + 1, 0, none⟩), s6, .int .i64 A, .int .i64 B, .int .i64 A, .int .i64 B, s11, s12, s13, s14, s15, s16, s17, s18, s19, s20, s21, s22, s23, s24, s25, s26, s27, s28, s29, s30, s31, s32, s33, s34, s35, s36, s37, s38, s39, s40, s41, s42, s43, s44, s45, s46, s47, s48, s49, s50, s51, s52, s53, s54, s55, s56, s57, s58, s59, s60, s61, s62, s63, s64, s65, s66, s67, s68, s69, s70, s71, s72, s73, s74, s75, s76, s77, s78, s79, s80, s81, s82, s83, s84, s85, .bool true, undef, undef, undef, undef, .agg #[.slice b m d, .int .i64 q], undef, undef, undef, undef, undef, undef, undef, undef, undef, undef, undef, undef], defers := [] } X := by
        as_aux_lemma =>
        intro s6 s11 s12 s13 s14 s15 s16 s17 s18 s19 s20 s21 s22 s23 s24 s25 s26 s27 s28 s29 s30 s31 s32 s33 s34 s35 s36 s37 s38 s39 s40 s41 s42 s43 s44 s45 s46 s47 s48 s49 s50 s51 s52 s53 s54 s55 s56 s57 s58 s59 s60 s61 s62 s63 s64 s65 s66 s67 s68 s69 s70 s71 s72 s73 s74 s75 s76 s77 s78 s79 s80 s81 s82 s83 s84 s85 X hW'
        obtain ⟨z0, z1, z2, z3, z4, z5, z6, z7⟩ := hW'.cells
        refine any_fork (f1 := 16) [37, 38, 40] (by rw [← hops]; kernel_rfl) (by simp) (by rw [← hops]; kernel_rfl) (by rfl) ?_
        intro ix hix
        simp only [List.mem_cons, List.not_mem_nil, or_false] at hix
        rcases hix with rfl | rfl | rfl
        · obtain ⟨lz, hlz⟩ : ∃ l, atL ops [37] = l := ⟨_, rfl⟩
          rw [hlz]
          rw [← hops] at hlz
          simp only [atL, List.filterMap_cons, List.filterMap_nil, List.getElem?_toArray, List.getElem?_cons_succ, List.getElem?_cons_zero] at hlz
          subst hlz
          refine wpSeg_want (by rw [← hops]; kernel_rfl) (fun K' hK => ?_)
          go_simp
          refine hK _ _ ?_
          clear hK K'
          (try simp only [Act.put, List.setIfInBounds_toArray, List.set_cons_zero, List.set_cons_succ])
          show wpAny _ _ _ _ _ _ _ _
          rw [show (fsL 55 37 [41]).setIfInBounds 37 true = fsL 55 38 [41] from by kernel_rfl]
          exact T38_41 _ _ _ _ _ _ _ _ _ _ _ _ _ _ _ _ _ _ _ _ _ _ _ _ _ _ _ _ _ _ _ _ _ _ _ _ _ _ _ _ _ _ _ _ _ _ _ _ _ _ _ _ _ _ _ _ _ _ _ _ _ _ _ _ _ _ _ _ _ _ _ _ _ _ _ _ _ hW' 
        · obtain ⟨lz, hlz⟩ : ∃ l, atL ops [38] = l := ⟨_, rfl⟩
          rw [hlz]
          rw [← hops] at hlz
          simp only [atL, List.filterMap_cons, List.filterMap_nil, List.getElem?_toArray, List.getElem?_cons_succ, List.getElem?_cons_zero] at hlz
          subst hlz
          refine wpSeg_want (by rw [← hops]; kernel_rfl) (fun K' hK => ?_)
          go_simp
          refine hK _ _ ?_
          clear hK K'
          (try simp only [Act.put, List.setIfInBounds_toArray, List.set_cons_zero, List.set_cons_succ])
          show wpAny _ _ _ _ _ _ _ _
          rw [show (fsL 55 37 [41]).setIfInBounds 38 true = fsL 55 37 [38, 41] from by kernel_rfl]
          exact T37_38_41 _ _ _ _ _ _ _ _ _ _ _ _ _ _ _ _ _ _ _ _ _ _ _ _ _ _ _ _ _ _ _ _ _ _ _ _ _ _ _ _ _ _ _ _ _ _ _ _ _ _ _ _ _ _ _ _ _ _ _ _ _ _ _ _ _ _ _ _ _ _ _ _ _ _ _ _ _ hW' 
        · obtain ⟨lz, hlz⟩ : ∃ l, atL ops [40] = l := ⟨_, rfl⟩
          rw [hlz]
          rw [← hops] at hlz
          simp only [atL, List.filterMap_cons, List.filterMap_nil, List.getElem?_toArray, List.getElem?_cons_succ, List.getElem?_cons_zero] at hlz
          subst hlz
          refine wpSeg_want (by rw [← hops]; kernel_rfl) (fun K' hK => ?_)
          go_simp
          refine hK _ _ ?_
          clear hK K'
          (try simp only [Act.put, List.setIfInBounds_toArray, List.set_cons_zero, List.set_cons_succ])
          show wpAny _ _ _ _ _ _ _ _
          rw [show (fsL 55 37 [41]).setIfInBounds 40 true = fsL 55 37 [40, 41] from by kernel_rfl]
          exact T37_40_41 _ _ _ _ _ _ _ _ _ _ _ _ _ _ _ _ _ _ _ _ _ _ _ _ _ _ _ _ _ _ _ _ _ _ _ _ _ _ _ _ _ _ _ _ _ _ _ _ _ _ _ _ _ _ _ _ _ _ _ _ _ _ _ _ _ _ _ _ _ _ _ _ _ _ _ _ _ hW' 
      have T37_38 : ∀ (s6 s11 s12 s13 s14 s15 s16 s17 s18 s19 s20 s21 s22 s23 s24 s25 s26 s27 s28 s29 s30 s31 s32 s33 s34 s35 s36 s37 s38 s39 s40 s41 s42 s43 s44 s45 s46 s47 s48 s49 s50 s51 s52 s53 s54 s55 s56 s57 s58 s59 s60 s61 s62 s63 s64 s65 s66 s67 s68 s69 s70 s71 s72 s73 s74 s75 s76 s77 s78 s79 s80 s81 s82 s83 s84 s85 : Value) (X : World), TlK w a b i m c d p q L Q t X → wpAny Try.prog .any ops QQ 17 (fsL 55 37 [38]) { tmps := #[ptV (.slice a i c) p, ptV (.slice b m d) q, tmV t, .pointer (some ⟨w.heap.size, 0, none⟩), .pointer (some ⟨w.heap.size + 1, 0, none⟩), .pointer (some ⟨w.heap.size + 1 + 1, 0, none⟩), s6, .int .i64 A, .int .i64 B, .int .i64 A, .int .i64 B, s11, s12, s13, s14, s15, s16, s17, s18, s19, s20, s21, s22, s23, s24, s25, s26, s27, s28, s29, s30, s31, s32, s33, s34, s35, s36, s37, s38, s39, s40, s41, s42, s43, s44, s45, s46, s47, s48, s49, s50, s51, s52, s53, s54, s55, s56, s57, s58, s59, s60, s61, s62, s63, s64, s65, s66, s67, s68, s69, s70, s71, s72, s73, s74, s75, s76, s77, s78, s79, s80, s81, s82, s83, s84, s85, .bool true, undef, .agg #[.slice b m d, .int .i64 q], undef, undef, undef, undef, undef, undef, undef, undef, undef, undef, undef, undef, undef, undef, undef], defers := [] } X := by
        as_aux_lemma =>
        intro s6 s11 s12 s13 s14 s15 s16 s17 s18 s19 s20 s21 s22 s23 s24 s25 s26 s27 s28 s29 s30 s31 s32 s33 s34 s35 s36 s37 s38 s39 s40 s41 s42 s43 s44 s45 s46 s47 s48 s49 s50 s51 s52 s53 s54 s55 s56 s57 s58 s59 s60 s61 s62 s63 s64 s65 s66 s67 s68 s69 s70 s71 s72 s73 s74 s75 s76 s77 s78 s79 s80 s81 s82 s83 s84 s85 X hW'
        obtain ⟨z0, z1, z2, z3, z4, z5, z6, z7⟩ := hW'.cells
        refine any_fork (f1 := 16) [37, 40, 41] (by rw [← hops]; kernel_rfl) (by simp) (by rw [← hops]; kernel_rfl) (by rfl) ?_
        intro ix hix
        simp only [List.mem_cons, List.not_mem_nil, or_false] at hix
        rcases hix with rfl | rfl | rfl
        · obtain ⟨lz, hlz⟩ : ∃ l, atL ops [37] = l := ⟨_, rfl⟩
          rw [hlz]
          rw [← hops] at hlz
          simp only [atL, List.filterMap_cons, List.filterMap_nil, List.getElem?_toArray, List.getElem?_cons_succ, List.getElem?_cons_zero] at hlz
          subst hlz
          refine wpSeg_want (by rw [← hops]; kernel_rfl) (fun K' hK => ?_)
          go_simp
          refine hK _ _ ?_
          clear hK K'
          (try simp only [Act.put, List.setIfInBounds_toArray, List.set_cons_zero, List.set_cons_succ])
          show wpAny _ _ _ _ _ _ _ _
          rw [show (fsL 55 37 [38]).setIfInBounds 37 true = fsL 55 39 [] from by kernel_rfl]
          exact T39 _ _ _ _ _ _ _ _ _ _ _ _ _ _ _ _ _ _ _ _ _ _ _ _ _ _ _ _ _ _ _ _ _ _ _ _ _ _ _ _ _ _ _ _ _ _ _ _ _ _ _ _ _ _ _ _ _ _ _ _ _ _ _ _ _ _ _ _ _ _ _ _ _ _ _ _ _ hW' 
        · obtain ⟨lz, hlz⟩ : ∃ l, atL ops [40] = l := ⟨_, rfl⟩
          rw [hlz]
          rw [← hops] at hlz
          simp only [atL, List.filterMap_cons, List.filterMap_nil, List.getElem?_toArray, List.getElem?_cons_succ, List.getElem?_cons_zero] at hlz
          subst hlz
          refine wpSeg_want (by rw [← hops]; kernel_rfl) (fun K' hK => ?_)
          go_simp
          refine hK _ _ ?_
          clear hK K'
          (try simp only [Act.put, List.setIfInBounds_toArray, List.set_cons_zero, List.set_cons_succ])
          show wpAny _ _ _ _ _ _ _ _
          rw [show (fsL 55 37 [38]).setIfInBounds 40 true = fsL 55 37 [38, 40] from by kernel_rfl]
          exact T37_38_40 _ _ _ _ _ _ _ _ _ _ _ _ _ _ _ _ _ _ _ _ _ _ _ _ _ _ _ _ _ _ _ _ _ _ _ _ _ _ _ _ _ _ _ _ _ _ _ _ _ _ _ _ _ _ _ _ _ _ _ _ _ _ _ _ _ _ _ _ _ _ _ _ _ _ _ _ _ hW' 
        · obtain ⟨lz, hlz⟩ : ∃ l, atL ops [41] = l := ⟨_, rfl⟩
          rw [hlz]
          rw [← hops] at hlz
          simp only [atL, List.filterMap_cons, List.filterMap_nil, List.getElem?_toArray, List.getElem?_cons_succ, List.getElem?_cons_zero] at hlz
          subst hlz
          refine wpSeg_want (by rw [← hops]; kernel_rfl) (fun K' hK => ?_)
          go_simp
          refine hK _ _ ?_
          clear hK K'
          (try simp only [Act.put, List.setIfInBounds_toArray, List.set_cons_zero, List.set_cons_succ])
          show wpAny _ _ _ _ _ _ _ _
          rw [show (fsL 55 37 [38]).setIfInBounds 41 true = fsL 55 37 [38, 41] from by kernel_rfl]
          exact T37_38_41 _ _ _ _ _ _ _ _ _ _ _ _ _ _ _ _ _ _ _ _ _ _ _ _ _ _ _ _ _ _ _ _ _ _ _ _ _ _ _ _ _ _ _ _ _ _ _ _ _ _ _ _ _ _ _ _ _ _ _ _ _ _ _ _ _ _ _ _ _ _ _ _ _ _ _ _ _ hW' 
      have T37 : ∀ (s6 s11 s12 s13 s14 s15 s16 s17 s18 s19 s20 s21 s22 s23 s24 s25 s26 s27 s28 s29 s30 s31 s32 s33 s34 s35 s36 s37 s38 s39 s40 s41 s42 s43 s44 s45 s46 s47 s48 s49 s50 s51 s52 s53 s54 s55 s56 s57 s58 s59 s60 s61 s62 s63 s64 s65 s66 s67 s68 s69 s70 s71 s72 s73 s74 s75 s76 s77 s78 s79 s80 s81 s82 s83 s84 s85 : Value) (X : World), TlK w a b i m c d p q L Q t X → wpAny Try.prog .any ops QQ 18 (fsL 55 37 []) { tmps := #[ptV (.slice a i c) p, ptV (.slice b m d) q, tmV t, .pointer (some ⟨w.heap.size, 0, none⟩), .pointer (some ⟨w.heap.size + 1, 0, none⟩), .pointer (some ⟨w.heap.size + 1 + 1, 0, none⟩), s6, .int .i64 A, .int .i64 B, .int .i64 A, .int .i64 B, s11, s12, s13, s14, s15, s16, s17, s18, s19, s20, s21, s22, s23, s24, s25, s26, s27, s28, s29, s30, s31, s32, s33, s34, s35, s36, s37, s38, s39, s40, s41, s42, s43, s44, s45, s46, s47, s48, s49, s50, s51, s52, s53, s54, s55, s56, s57, s58, s59, s60, s61, s62, s63, s64, s65, s66, s67, s68, s69, s70, s71, s72, s73, s74, s75, s76, s77, s78, s79, s80, s81, s82, s83, s84, s85, .bool true, undef, undef, undef, undef, undef, undef, undef, undef, undef, undef, undef, undef, undef, undef, undef, undef, undef], defers := [] } X := by
        as_aux_lemma =>
        intro s6 s11 s12 s13 s14 s15 s16 s17 s18 s19 s20 s21 s22 s23 s24 s25 s26 s27 s28 s29 s30 s31 s32 s33 s34 s35 s36 s37 s38 s39 s40 s41 s42 s43 s44 s45 s46 s47 s48 s49 s50 s51 s52 s53 s54 s55 s56 s57 s58 s59 s60 s61 s62 s63 s64 s65 s66 s67 s68 s69 s70 s71 s72 s73 s74 s75 s76 s77 s78 s79 s80 s81 s82 s83 s84 s85 X hW'
        obtain ⟨z0, z1, z2, z3, z4, z5, z6, z7⟩ := hW'.cells
        refine any_fork (f1 := 17) [37, 38, 40, 41] (by rw [← hops]; kernel_rfl) (by simp) (by rw [← hops]; kernel_rfl) (by rfl) ?_
        intro ix hix
        simp only [List.mem_cons, List.not_mem_nil, or_false] at hix
        rcases hix with rfl | rfl | rfl | rfl
        · obtain ⟨lz, hlz⟩ : ∃ l, atL ops [37] = l := ⟨_, rfl⟩
          rw [hlz]
          rw [← hops] at hlz
          simp only [atL, List.filterMap_cons, List.filterMap_nil, List.getElem?_toArray, List.getElem?_cons_succ, List.getElem?_cons_zero] at hlz
          subst hlz
          refine wpSeg_want (by rw [← hops]; kernel_rfl) (fun K' hK => ?_)
          go_simp
          refine hK _ _ ?_
          clear hK K'
          (try simp only [Act.put, List.setIfInBounds_toArray, List.set_cons_zero, List.set_cons_succ])
          show wpAny _ _ _ _ _ _ _ _
          rw [show (fsL 55 37 []).setIfInBounds 37 true = fsL 55 38 [] from by kernel_rfl]
          exact T38 _ _ _ _ _ _ _ _ _ _ _ _ _ _ _ _ _ _ _ _ _ _ _ _ _ _ _ _ _ _ _ _ _ _ _ _ _ _ _ _ _ _ _ _ _ _ _ _ _ _ _ _ _ _ _ _ _ _ _ _ _ _ _ _ _ _ _ _ _ _ _ _ _ _ _ _ _ hW' 
        · obtain ⟨lz, hlz⟩ : ∃ l, atL ops [38] = l := ⟨_, rfl⟩
          rw [hlz]
          rw [← hops] at hlz
          simp only [atL, List.filterMap_cons, List.filterMap_nil, List.getElem?_toArray, List.getElem?_cons_succ, List.getElem?_cons_zero] at hlz
          subst hlz
          refine wpSeg_want (by rw [← hops]; kernel_rfl) (fun K' hK => ?_)
          go_simp
          refine hK _ _ ?_
          clear hK K'
          (try simp only [Act.put, List.setIfInBounds_toArray, List.set_cons_zero, List.set_cons_succ])
          show wpAny _ _ _ _ _ _ _ _
          rw [show (fsL 55 37 []).setIfInBounds 38 true = fsL 55 37 [38] from by kernel_rfl]
          exact T37_38 _ _ _ _ _ _ _ _ _ _ _ _ _ _ _ _ _ _ _ _ _ _ _ _ _ _ _ _ _ _ _ _ _ _ _ _ _ _ _ _ _ _ _ _ _ _ _ _ _ _ _ _ _ _ _ _ _ _ _ _ _ _ _ _ _ _ _ _ _ _ _ _ _ _ _ _ _ hW' 
        · obtain ⟨lz, hlz⟩ : ∃ l, atL ops [40] = l := ⟨_, rfl⟩
          rw [hlz]
          rw [← hops] at hlz
          simp only [atL, List.filterMap_cons, List.filterMap_nil, List.getElem?_toArray, List.getElem?_cons_succ, List.getElem?_cons_zero] at hlz
          subst hlz
          refine wpSeg_want (by rw [← hops]; kernel_rfl) (fun K' hK => ?_)
          go_simp
          refine hK _ _ ?_
          clear hK K'
          (try simp only [Act.put, List.setIfInBounds_toArray, List.set_cons_zero, List.set_cons_succ])
          show wpAny _ _ _ _ _ _ _ _
          rw [show (fsL 55 37 []).setIfInBounds 40 true = fsL 55 37 [40] from by kernel_rfl]
          exact T37_40 _ _ _ _ _ _ _ _ _ _ _ _ _ _ _ _ _ _ _ _ _ _ _ _ _ _ _ _ _ _ _ _ _ _ _ _ _ _ _ _ _ _ _ _ _ _ _ _ _ _ _ _ _ _ _ _ _ _ _ _ _ _ _ _ _ _ _ _ _ _ _ _ _ _ _ _ _ hW' 
        · obtain ⟨lz, hlz⟩ : ∃ l, atL ops [41] = l := ⟨_, rfl⟩
          rw [hlz]
          rw [← hops] at hlz
          simp only [atL, List.filterMap_cons, List.filterMap_nil, List.getElem?_toArray, List.getElem?_cons_succ, List.getElem?_cons_zero] at hlz
          subst hlz
          refine wpSeg_want (by rw [← hops]; kernel_rfl) (fun K' hK => ?_)
          go_simp
          refine hK _ _ ?_
          clear hK K'
          (try simp only [Act.put, List.setIfInBounds_toArray, List.set_cons_zero, List.set_cons_succ])
          show wpAny _ _ _ _ _ _ _ _
          rw [show (fsL 55 37 []).setIfInBounds 41 true = fsL 55 37 [41] from by kernel_rfl]
          exact T37_41 _ _ _ _ _ _ _ _ _ _ _ _ _ _ _ _ _ _ _ _ _ _ _ _ _ _ _ _ _ _ _ _ _ _ _ _ _ _ _ _ _ _ _ _ _ _ _ _ _ _ _ _ _ _ _ _ _ _ _ _ _ _ _ _ _ _ _ _ _ _ _ _ _ _ _ _ _ hW' 
      have T33 : ∀ (s6 s11 s12 s13 s14 s15 s16 s17 s18 s19 s20 s21 s22 s23 s24 s25 s26 s27 s28 s29 s30 s31 s32 s33 s34 s35 s36 s37 s38 s39 s40 s41 s42 s43 s44 s45 s46 s47 s48 s49 s50 s51 s52 s53 s54 s55 s56 s57 s58 s59 s60 s61 s62 s63 s64 s65 s66 s67 s68 s69 s70 s71 s72 s73 s74 s75 s76 s77 s78 s80 : Value) (X : World), TlK w a b i m c d p q L Q t X → wpAny Try.prog .any ops QQ 22 (fsL 55 33 []) { tmps := #[ptV (.slice a i c) p, ptV (.slice b m d) q, tmV t, .pointer (some ⟨w.heap.size, 0, none⟩), .pointer (some ⟨w.heap.size + 1, 0, none⟩), .pointer (some ⟨w.heap.size + 1 + 1, 0, none⟩), s6, .int .i64 A, .int .i64 B, .int .i64 A, .int .i64 B, s11, s12, s13, s14, s15, s16, s17, s18, s19, s20, s21, s22, s23, s24, s25, s26, s27, s28, s29, s30, s31, s32, s33, s34, s35, s36, s37, s38, s39, s40, s41, s42, s43, s44, s45, s46, s47, s48, s49, s50, s51, s52, s53, s54, s55, s56, s57, s58, s59, s60, s61, s62, s63, s64, s65, s66, s67, s68, s69, s70, s71, s72, s73, s74, s75, s76, s77, s78, .bool true, s80, .int .i64 Z, .agg #[.slice a i c, .int .i64 p], undef, undef, undef, undef, undef, undef, undef, undef, undef, undef, undef, undef, undef, undef, undef, undef, undef, undef, undef, undef, undef], defers := [] } X := by
        as_aux_lemma =>
        intro s6 s11 s12 s13 s14 s15 s16 s17 s18 s19 s20 s21 s22 s23 s24 s25 s26 s27 s28 s29 s30 s31 s32 s33 s34 s35 s36 s37 s38 s39 s40 s41 s42 s43 s44 s45 s46 s47 s48 s49 s50 s51 s52 s53 s54 s55 s56 s57 s58 s59 s60 s61 s62 s63 s64 s65 s66 s67 s68 s69 s70 s71 s72 s73 s74 s75 s76 s77 s78 s80 X hW'
        obtain ⟨z0, z1, z2, z3, z4, z5, z6, z7⟩ := hW'.cells
        refine any_seg (fu := 18) (l2 := fsL 55 37 []) [33, 34, 35, 36] (by rfl) (by rw [← hops]; kernel_rfl) ?_
        obtain ⟨lz, hlz⟩ : ∃ l, atL ops [33, 34, 35, 36] = l := ⟨_, rfl⟩
        rw [hlz]
        rw [← hops] at hlz
        simp only [atL, List.filterMap_cons, List.filterMap_nil, List.getElem?_toArray, List.getElem?_cons_succ, List.getElem?_cons_zero] at hlz
        subst hlz
        refine wpSeg_want (by rw [← hops]; kernel_rfl) (fun K' hK => ?_)
        go_simp
        refine (D33.out _ hW').mono ?_
        rintro e Xa ⟨rfl, hW', hb⟩
        dsimp only
        refine hK _ _ ?_
        clear hK K'
        (try simp only [Act.put, List.setIfInBounds_toArray, List.set_cons_zero, List.set_cons_succ])
        clear z0 z1 z2 z3 z4 z5 z6 z7
        obtain ⟨z0, z1, z2, z3, z4, z5, z6, z7⟩ := hW'.cells
        refine wpSeg_want (by rw [← hops]; kernel_rfl) (fun K' hK => ?_)
        go_simp
        refine hK _ _ ?_
        clear hK K'
        (try simp only [Act.put, List.setIfInBounds_toArray, List.set_cons_zero, List.set_cons_succ])
        refine wpSeg_want (by rfl) (fun K' hK => ?_)
        go_simp
        refine hK _ _ ?_
        clear hK K'
        (try simp only [Act.put, List.setIfInBounds_toArray, List.set_cons_zero, List.set_cons_succ])
        refine wpSeg_want (by rfl) (fun K' hK => ?_)
        go_simp
        refine hK _ _ ?_
        clear hK K'
        (try simp only [Act.put, List.setIfInBounds_toArray, List.set_cons_zero, List.set_cons_succ])
        show wpAny _ _ _ _ _ _ _ _
        exact T37 _ _ _ _ _ _ _ _ _ _ _ _ _ _ _ _ _ _ _ _ _ _ _ _ _ _ _ _ _ _ _ _ _ _ _ _ _ _ _ _ _ _ _ _ _ _ _ _ _ _ _ _ _ _ _ _ _ _ _ _ _ _ _ _ _ _ _ _ _ _ _ _ _ _ _ _ _ hW' 
      have T32 : ∀ (s6 s11 s12 s13 s14 s15 s16 s17 s18 s19 s20 s21 s22 s23 s24 s25 s26 s27 s28 s29 s30 s31 s32 s33 s34 s35 s36 s37 s38 s39 s40 s41 s42 s43 s44 s45 s46 s47 s48 s49 s50 s51 s52 s53 s54 s55 s56 s57 s58 s59 s60 s61 s62 s63 s64 s65 s66 s67 s68 s69 s70 s71 s72 s73 s74 s75 s76 s77 s78 s80 : Value) (X : World), TlK w a b i m c d p q L Q t X → wpAny Try.prog .any ops QQ 23 (fsL 55 32 []) { tmps := #[ptV (.slice a i c) p, ptV (.slice b m d) q, tmV t, .pointer (some ⟨w.heap.size, 0, none⟩), .pointer (some ⟨w.heap.size + 1, 0, none⟩), .pointer (some ⟨w.heap.size + 1 + 1, 0, none⟩), s6, .int .i64 A, .int .i64 B, .int .i64 A, .int .i64 B, s11, s12, s13, s14, s15, s16, s17, s18, s19, s20, s21, s22, s23, s24, s25, s26, s27, s28, s29, s30, s31, s32, s33, s34, s35, s36, s37, s38, s39, s40, s41, s42, s43, s44, s45, s46, s47, s48, s49, s50, s51, s52, s53, s54, s55, s56, s57, s58, s59, s60, s61, s62, s63, s64, s65, s66, s67, s68, s69, s70, s71, s72, s73, s74, s75, s76, s77, s78, .bool true, s80, .int .i64 Z, undef, undef, undef, undef, undef, undef, undef, undef, undef, undef, undef, undef, undef, undef, undef, undef, undef, undef, undef, undef, undef, undef], defers := [] } X := by
        as_aux_lemma =>
        intro s6 s11 s12 s13 s14 s15 s16 s17 s18 s19 s20 s21 s22 s23 s24 s25 s26 s27 s28 s29 s30 s31 s32 s33 s34 s35 s36 s37 s38 s39 s40 s41 s42 s43 s44 s45 s46 s47 s48 s49 s50 s51 s52 s53 s54 s55 s56 s57 s58 s59 s60 s61 s62 s63 s64 s65 s66 s67 s68 s69 s70 s71 s72 s73 s74 s75 s76 s77 s78 s80 X hW'
        obtain ⟨z0, z1, z2, z3, z4, z5, z6, z7⟩ := hW'.cells
        refine any_seg (fu := 22) (l2 := fsL 55 33 []) [32] (by rfl) (by rw [← hops]; kernel_rfl) ?_
        obtain ⟨lz, hlz⟩ : ∃ l, atL ops [32] = l := ⟨_, rfl⟩
        rw [hlz]
        rw [← hops] at hlz
        simp only [atL, List.filterMap_cons, List.filterMap_nil, List.getElem?_toArray, List.getElem?_cons_succ, List.getElem?_cons_zero] at hlz
        subst hlz
        refine wpSeg_want (by rw [← hops]; kernel_rfl) (fun K' hK => ?_)
        go_simp
        refine hK _ _ ?_
        clear hK K'
        (try simp only [Act.put, List.setIfInBounds_toArray, List.set_cons_zero, List.set_cons_succ])
        show wpAny _ _ _ _ _ _ _ _
        exact T33 _ _ _ _ _ _ _ _ _ _ _ _ _ _ _ _ _ _ _ _ _ _ _ _ _ _ _ _ _ _ _ _ _ _ _ _ _ _ _ _ _ _ _ _ _ _ _ _ _ _ _ _ _ _ _ _ _ _ _ _ _ _ _ _ _ _ _ _ _ _ _ hW' 
      have T31_32 : ∀ (s6 s11 s12 s13 s14 s15 s16 s17 s18 s19 s20 s21 s22 s23 s24 s25 s26 s27 s28 s29 s30 s31 s32 s33 s34 s35 s36 s37 s38 s39 s40 s41 s42 s43 s44 s45 s46 s47 s48 s49 s50 s51 s52 s53 s54 s55 s56 s57 s58 s59 s60 s61 s62 s63 s64 s65 s66 s67 s68 s69 s70 s71 s72 s73 s74 s75 s76 s77 s78 : Value) (X : World), TlK w a b i m c d p q L Q t X → wpAny Try.prog .any ops QQ 23 (fsL 55 31 [32]) { tmps := #[ptV (.slice a i c) p, ptV (.slice b m d) q, tmV t, .pointer (some ⟨w.heap.size, 0, none⟩), .pointer (some ⟨w.heap.size + 1, 0, none⟩), .pointer (some ⟨w.heap.size + 1 + 1, 0, none⟩), s6, .int .i64 A, .int .i64 B, .int .i64 A, .int .i64 B, s11, s12, s13, s14, s15, s16, s17, s18, s19, s20, s21, s22, s23, s24, s25, s26, s27, s28, s29, s30, s31, s32, s33, s34, s35, s36, s37, s38, s39, s40, s41, s42, s43, s44, s45, s46, s47, s48, s49, s50, s51, s52, s53, s54, s55, s56, s57, s58, s59, s60, s61, s62, s63, s64, s65, s66, s67, s68, s69, s70, s71, s72, s73, s74, s75, s76, s77, s78, .bool true, .agg #[.slice a i c, .int .i64 p], undef, .agg #[.slice a i c, .int .i64 p], undef, undef, undef, undef, undef, undef, undef, undef, undef, undef, undef, undef, undef, undef, undef, undef, undef, undef, undef, undef, undef], defers := [] } X := by
        as_aux_lemma =>
        intro s6 s11 s12 s13 s14 s15 s16 s17 s18 s19 s20 s21 s22 s23 s24 s25 s26 s27 s28 s29 s30 s31 s32 s33 s34 s35 s36 s37 s38 s39 s40 s41 s42 s43 s44 s45 s46 s47 s48 s49 s50 s51 s52 s53 s54 s55 s56 s57 s58 s59 s60 s61 s62 s63 s64 s65 s66 s67 s68 s69 s70 s71 s72 s73 s74 s75 s76 s77 s78 X hW'
        obtain ⟨z0, z1, z2, z3, z4, z5, z6, z7⟩ := hW'.cells
        refine any_seg (fu := 22) (l2 := fsL 55 33 []) [31] (by rfl) (by rw [← hops]; kernel_rfl) ?_
        obtain ⟨lz, hlz⟩ : ∃ l, atL ops [31] = l := ⟨_, rfl⟩
        rw [hlz]
        rw [← hops] at hlz
        simp only [atL, List.filterMap_cons, List.filterMap_nil, List.getElem?_toArray, List.getElem?_cons_succ, List.getElem?_cons_zero] at hlz
        subst hlz
        refine wpSeg_want (by rw [← hops]; kernel_rfl) (fun K' hK => ?_)
        go_simp
        refine (D31.out _ hW').mono ?_
        rintro e Xa ⟨rfl, hW', hb⟩
        dsimp only
        refine hK _ _ ?_
        clear hK K'
        (try simp only [Act.put, List.setIfInBounds_toArray, List.set_cons_zero, List.set_cons_succ])
        clear z0 z1 z2 z3 z4 z5 z6 z7
        obtain ⟨z0, z1, z2, z3, z4, z5, z6, z7⟩ := hW'.cells
        show wpAny _ _ _ _ _ _ _ _
        exact T33 _ _ _ _ _ _ _ _ _ _ _ _ _ _ _ _ _ _ _ _ _ _ _ _ _ _ _ _ _ _ _ _ _ _ _ _ _ _ _ _ _ _ _ _ _ _ _ _ _ _ _ _ _ _ _ _ _ _ _ _ _ _ _ _ _ _ _ _ _ _ _ hW' 
      have T30_32 : ∀ (s6 s11 s12 s13 s14 s15 s16 s17 s18 s19 s20 s21 s22 s23 s24 s25 s26 s27 s28 s29 s30 s31 s32 s33 s34 s35 s36 s37 s38 s39 s40 s41 s42 s43 s44 s45 s46 s47 s48 s49 s50 s51 s52 s53 s54 s55 s56 s57 s58 s59 s60 s61 s62 s63 s64 s65 s66 s67 s68 s69 s70 s71 s72 s73 s74 s75 s76 s77 s78 : Value) (X : World), TlK w a b i m c d p q L Q t X → wpAny Try.prog .any ops QQ 24 (fsL 55 30 [32]) { tmps := #[ptV (.slice a i c) p, ptV (.slice b m d) q, tmV t, .pointer (some ⟨w.heap.size, 0, none⟩), .pointer (some ⟨w.heap.size + 1, 0, none⟩), .pointer (some ⟨w.heap.size + 1 + 1, 0, none⟩), s6, .int .i64 A, .int .i64 B, .int .i64 A, .int .i64 B, s11, s12, s13, s14, s15, s16, s17, s18, s19, s20, s21, s22, s23, s24, s25, s26, s27, s28, s29, s30, s31, s32, s33, s34, s35, s36, s37, s38, s39, s40, s41, s42, s43, s44, s45, s46, s47, s48, s49, s50, s51, s52, s53, s54, s55, s56, s57, s58, s59, s60, s61, s62, s63, s64, s65, s66, s67, s68, s69, s70, s71, s72, s73, s74, s75, s76, s77, s78, .bool true, undef, undef, .agg #[.slice a i c, .int .i64 p], undef, undef, undef, undef, undef, undef, undef, undef, undef, undef, undef, undef, undef, undef, undef, undef, undef, undef, undef, undef, undef], defers := [] } X := by
        as_aux_lemma =>
        intro s6 s11 s12 s13 s14 s15 s16 s17 s18 s19 s20 s21 s22 s23 s24 s25 s26 s27 s28 s29 s30 s31 s32 s33 s34 s35 s36 s37 s38 s39 s40 s41 s42 s43 s44 s45 s46 s47 s48 s49 s50 s51 s52 s53 s54 s55 s56 s57 s58 s59 s60 s61 s62 s63 s64 s65 s66 s67 s68 s69 s70 s71 s72 s73 s74 s75 s76 s77 s78 X hW'
        obtain ⟨z0, z1, z2, z3, z4, z5, z6, z7⟩ := hW'.cells
        refine any_seg (fu := 23) (l2 := fsL 55 31 [32]) [30] (by rfl) (by rw [← hops]; kernel_rfl) ?_
        obtain ⟨lz, hlz⟩ : ∃ l, atL ops [30] = l := ⟨_, rfl⟩
        rw [hlz]
        rw [← hops] at hlz
        simp only [atL, List.filterMap_cons, List.filterMap_nil, List.getElem?_toArray, List.getElem?_cons_succ, List.getElem?_cons_zero] at hlz
        subst hlz
        refine wpSeg_want (by rw [← hops]; kernel_rfl) (fun K' hK => ?_)
        go_simp
        refine hK _ _ ?_
        clear hK K'
        (try simp only [Act.put, List.setIfInBounds_toArray, List.set_cons_zero, List.set_cons_succ])
        show wpAny _ _ _ _ _ _ _ _
        exact T31_32 _ _ _ _ _ _ _ _ _ _ _ _ _ _ _ _ _ _ _ _ _ _ _ _ _ _ _ _ _ _ _ _ _ _ _ _ _ _ _ _ _ _ _ _ _ _ _ _ _ _ _ _ _ _ _ _ _ _ _ _ _ _ _ _ _ _ _ _ _ _ hW' 
      have T31 : ∀ (s6 s11 s12 s13 s14 s15 s16 s17 s18 s19 s20 s21 s22 s23 s24 s25 s26 s27 s28 s29 s30 s31 s32 s33 s34 s35 s36 s37 s38 s39 s40 s41 s42 s43 s44 s45 s46 s47 s48 s49 s50 s51 s52 s53 s54 s55 s56 s57 s58 s59 s60 s61 s62 s63 s64 s65 s66 s67 s68 s69 s70 s71 s72 s73 s74 s75 s76 s77 s78 : Value) (X : World), TlK w a b i m c d p q L Q t X → wpAny Try.prog .any ops QQ 24 (fsL 55 31 []) { tmps := #[ptV (.slice a i c) p, ptV (.slice b m d) q, tmV t, .pointer (some ⟨w.heap.size, 0, none⟩), .pointer (some ⟨w.heap.size + 1, 0, none⟩), .pointer (some ⟨w.heap.size + 1 + 1, 0, none⟩), s6, .int .i64 A, .int .i64 B, .int .i64 A, .int .i64 B, s11, s12, s13, s14, s15, s16, s17, s18, s19, s20, s21, s22, s23, s24, s25, s26, s27, s28, s29, s30, s31, s32, s33, s34, s35, s36, s37, s38, s39, s40, s41, s42, s43, s44, s45, s46, s47, s48, s49, s50, s51, s52, s53, s54, s55, s56, s57, s58, s59, s60, s61, s62, s63, s64, s65, s66, s67, s68, s69, s70, s71, s72, s73, s74, s75, s76, s77, s78, .bool true, .agg #[.slice a i c, .int .i64 p], undef, undef, undef, undef, undef, undef, undef, undef, undef, undef, undef, undef, undef, undef, undef, undef, undef, undef, undef, undef, undef, undef, undef], defers := [] } X := by
        as_aux_lemma =>
        intro s6 s11 s12 s13 s14 s15 s16 s17 s18 s19 s20 s21 s22 s23 s24 s25 s26 s27 s28 s29 s30 s31 s32 s33 s34 s35 s36 s37 s38 s39 s40 s41 s42 s43 s44 s45 s46 s47 s48 s49 s50 s51 s52 s53 s54 s55 s56 s57 s58 s59 s60 s61 s62 s63 s64 s65 s66 s67 s68 s69 s70 s71 s72 s73 s74 s75 s76 s77 s78 X hW'
        obtain ⟨z0, z1, z2, z3, z4, z5, z6, z7⟩ := hW'.cells
        refine any_fork (f1 := 23) [31, 32] (by rw [← hops]; kernel_rfl) (by simp) (by rw [← hops]; kernel_rfl) (by rfl) ?_
        intro ix hix
        simp only [List.mem_cons, List.not_mem_nil, or_false] at hix
        rcases hix with rfl | rfl
        · obtain ⟨lz, hlz⟩ : ∃ l, atL ops [31] = l := ⟨_, rfl⟩
          rw [hlz]
          rw [← hops] at hlz
          simp only [atL, List.filterMap_cons, List.filterMap_nil, List.getElem?_toArray, List.getElem?_cons_succ, List.getElem?_cons_zero] at hlz
          subst hlz
          refine wpSeg_want (by rw [← hops]; kernel_rfl) (fun K' hK => ?_)
          go_simp
          refine (D31.out _ hW').mono ?_
          rintro e Xa ⟨rfl, hW', hb⟩
          dsimp only
          refine hK _ _ ?_
          clear hK K'
          (try simp only [Act.put, List.setIfInBounds_toArray, List.set_cons_zero, List.set_cons_succ])
          clear z0 z1 z2 z3 z4 z5 z6 z7
          obtain ⟨z0, z1, z2, z3, z4, z5, z6, z7⟩ := hW'.cells
          show wpAny _ _ _ _ _ _ _ _
          rw [show (fsL 55 31 []).setIfInBounds 31 true = fsL 55 32 [] from by kernel_rfl]
          exact T32 _ _ _ _ _ _ _ _ _ _ _ _ _ _ _ _ _ _ _ _ _ _ _ _ _ _ _ _ _ _ _ _ _ _ _ _ _ _ _ _ _ _ _ _ _ _ _ _ _ _ _ _ _ _ _ _ _ _ _ _ _ _ _ _ _ _ _ _ _ _ _ hW' 
        · obtain ⟨lz, hlz⟩ : ∃ l, atL ops [32] = l := ⟨_, rfl⟩
          rw [hlz]
          rw [← hops] at hlz
          simp only [atL, List.filterMap_cons, List.filterMap_nil, List.getElem?_toArray, List.getElem?_cons_succ, List.getElem?_cons_zero] at hlz
          subst hlz
          refine wpSeg_want (by rw [← hops]; kernel_rfl) (fun K' hK => ?_)
          go_simp
          refine hK _ _ ?_
          clear hK K'
          (try simp only [Act.put, List.setIfInBounds_toArray, List.set_cons_zero, List.set_cons_succ])
          show wpAny _ _ _ _ _ _ _ _
          rw [show (fsL 55 31 []).setIfInBounds 32 true = fsL 55 31 [32] from by kernel_rfl]
          exact T31_32 _ _ _ _ _ _ _ _ _ _ _ _ _ _ _ _ _ _ _ _ _ _ _ _ _ _ _ _ _ _ _ _ _ _ _ _ _ _ _ _ _ _ _ _ _ _ _ _ _ _ _ _ _ _ _ _ _ _ _ _ _ _ _ _ _ _ _ _ _ _ hW' 
      have T30 : ∀ (s6 s11 s12 s13 s14 s15 s16 s17 s18 s19 s20 s21 s22 s23 s24 s25 s26 s27 s28 s29 s30 s31 s32 s33 s34 s35 s36 s37 s38 s39 s40 s41 s42 s43 s44 s45 s46 s47 s48 s49 s50 s51 s52 s53 s54 s55 s56 s57 s58 s59 s60 s61 s62 s63 s64 s65 s66 s67 s68 s69 s70 s71 s72 s73 s74 s75 s76 s77 s78 : Value) (X : World), TlK w a b i m c d p q L Q t X → wpAny Try.prog .any ops QQ 25 (fsL 55 30 []) { tmps := #[ptV (.slice a i c) p, ptV (.slice b m d) q, tmV t, .pointer (some ⟨w.heap.size, 0, none⟩), .pointer (some ⟨w.heap.size + 1, 0, none⟩), .pointer (some ⟨w.heap.size + 1 + 1, 0, none⟩), s6, .int .i64 A, .int .i64 B, .int .i64 A, .int .i64 B, s11, s12, s13, s14, s15, s16, s17, s18, s19, s20, s21, s22, s23, s24, s25, s26, s27, s28, s29, s30, s31, s32, s33, s34, s35, s36, s37, s38, s39, s40, s41, s42, s43, s44, s45, s46, s47, s48, s49, s50, s51, s52, s53, s54, s55, s56, s57, s58, s59, s60, s61, s62, s63, s64, s65, s66, s67, s68, s69, s70, s71, s72, s73, s74, s75, s76, s77, s78, .bool true, undef, undef, undef, undef, undef, undef, undef, undef, undef, undef, undef, undef, undef, undef, undef, undef, undef, undef, undef, undef, undef, undef, undef, undef], defers := [] } X := by
        as_aux_lemma =>
        intro s6 s11 s12 s13 s14 s15 s16 s17 s18 s19 s20 s21 s22 s23 s24 s25 s26 s27 s28 s29 s30 s31 s32 s33 s34 s35 s36 s37 s38 s39 s40 s41 s42 s43 s44 s45 s46 s47 s48 s49 s50 s51 s52 s53 s54 s55 s56 s57 s58 s59 s60 s61 s62 s63 s64 s65 s66 s67 s68 s69 s70 s71 s72 s73 s74 s75 s76 s77 s78 X hW'
        obtain ⟨z0, z1, z2, z3, z4, z5, z6, z7⟩ := hW'.cells
        refine any_fork (f1 := 24) [30, 32] (by rw [← hops]; kernel_rfl) (by simp) (by rw [← hops]; kernel_rfl) (by rfl) ?_
        intro ix hix
        simp only [List.mem_cons, List.not_mem_nil, or_false] at hix
        rcases hix with rfl | rfl
        · obtain ⟨lz, hlz⟩ : ∃ l, atL ops [30] = l := ⟨_, rfl⟩
          rw [hlz]
          rw [← hops] at hlz
          simp only [atL, List.filterMap_cons, List.filterMap_nil, List.getElem?_toArray, List.getElem?_cons_succ, List.getElem?_cons_zero] at hlz
          subst hlz
          refine wpSeg_want (by rw [← hops]; kernel_rfl) (fun K' hK => ?_)
          go_simp
          refine hK _ _ ?_
          clear hK K'
          (try simp only [Act.put, List.setIfInBounds_toArray, List.set_cons_zero, List.set_cons_succ])
          show wpAny _ _ _ _ _ _ _ _
          rw [show (fsL 55 30 []).setIfInBounds 30 true = fsL 55 31 [] from by kernel_rfl]
          exact T31 _ _ _ _ _ _ _ _ _ _ _ _ _ _ _ _ _ _ _ _ _ _ _ _ _ _ _ _ _ _ _ _ _ _ _ _ _ _ _ _ _ _ _ _ _ _ _ _ _ _ _ _ _ _ _ _ _ _ _ _ _ _ _ _ _ _ _ _ _ _ hW' 
        · obtain ⟨lz, hlz⟩ : ∃ l, atL ops [32] = l := ⟨_, rfl⟩
          rw [hlz]
          rw [← hops] at hlz
          simp only [atL, List.filterMap_cons, List.filterMap_nil, List.getElem?_toArray, List.getElem?_cons_succ, List.getElem?_cons_zero] at hlz
          subst hlz
          refine wpSeg_want (by rw [← hops]; kernel_rfl) (fun K' hK => ?_)
          go_simp
          refine hK _ _ ?_
          clear hK K'
          (try simp only [Act.put, List.setIfInBounds_toArray, List.set_cons_zero, List.set_cons_succ])
          show wpAny _ _ _ _ _ _ _ _
          rw [show (fsL 55 30 []).setIfInBounds 32 true = fsL 55 30 [32] from by kernel_rfl]
          exact T30_32 _ _ _ _ _ _ _ _ _ _ _ _ _ _ _ _ _ _ _ _ _ _ _ _ _ _ _ _ _ _ _ _ _ _ _ _ _ _ _ _ _ _ _ _ _ _ _ _ _ _ _ _ _ _ _ _ _ _ _ _ _ _ _ _ _ _ _ _ _ _ hW' 
      have T27 : ∀ (s6 s11 s12 s13 s14 s15 s16 s17 s18 s19 s20 s21 s22 s23 s24 s25 s26 s27 s28 s29 s30 s31 s32 s33 s34 s35 s36 s37 s38 s39 s40 s41 s42 s43 s44 s45 s46 s47 s48 s49 s50 s51 s52 s53 s54 s55 s56 s57 s58 s59 s60 s61 s62 s63 s64 s65 s66 s67 s68 s69 s70 s71 s72 s73 : Value) (X : World), TlK w a b i m c d p q L Q t X → wpAny Try.prog .any ops QQ 28 (fsL 55 27 []) { tmps := #[ptV (.slice a i c) p, ptV (.slice b m d) q, tmV t, .pointer (some ⟨w.heap.size, 0, none⟩), .pointer (some ⟨w.heap.size + 1, 0, none⟩), .pointer (some ⟨w.heap.size + 1 + 1, 0, none⟩), s6, .int .i64 A, .int .i64 B, .int .i64 A, .int .i64 B, s11, s12, s13, s14, s15, s16, s17, s18, s19, s20, s21, s22, s23, s24, s25, s26, s27, s28, s29, s30, s31, s32, s33, s34, s35, s36, s37, s38, s39, s40, s41, s42, s43, s44, s45, s46, s47, s48, s49, s50, s51, s52, s53, s54, s55, s56, s57, s58, s59, s60, s61, s62, s63, s64, s65, s66, s67, s68, s69, s70, s71, s72, s73, .bool true, .int .i64 B, .int .i64 B, undef, undef, undef, undef, undef, undef, undef, undef, undef, undef, undef, undef, undef, undef, undef, undef, undef, undef, undef, undef, undef, undef, undef, undef, undef, undef, undef], defers := [] } X := by
        as_aux_lemma =>
        intro s6 s11 s12 s13 s14 s15 s16 s17 s18 s19 s20 s21 s22 s23 s24 s25 s26 s27 s28 s29 s30 s31 s32 s33 s34 s35 s36 s37 s38 s39 s40 s41 s42 s43 s44 s45 s46 s47 s48 s49 s50 s51 s52 s53 s54 s55 s56 s57 s58 s59 s60 s61 s62 s63 s64 s65 s66 s67 s68 s69 s70 s71 s72 s73 X hW'
        obtain ⟨z0, z1, z2, z3, z4, z5, z6, z7⟩ := hW'.cells
        refine any_seg (fu := 25) (l2 := fsL 55 30 []) [27, 28, 29] (by rfl) (by rw [← hops]; kernel_rfl) ?_
        obtain ⟨lz, hlz⟩ : ∃ l, atL ops [27, 28, 29] = l := ⟨_, rfl⟩
        rw [hlz]
        rw [← hops] at hlz
        simp only [atL, List.filterMap_cons, List.filterMap_nil, List.getElem?_toArray, List.getElem?_cons_succ, List.getElem?_cons_zero] at hlz
        subst hlz
        refine wpSeg_want (by rw [← hops]; kernel_rfl) (fun K' hK => ?_)
        go_simp
        refine hK _ _ ?_
        clear hK K'
        (try simp only [Act.put, List.setIfInBounds_toArray, List.set_cons_zero, List.set_cons_succ])
        refine wpSeg_want (by rfl) (fun K' hK => ?_)
        go_simp
        refine hK _ _ ?_
        clear hK K'
        (try simp only [Act.put, List.setIfInBounds_toArray, List.set_cons_zero, List.set_cons_succ])
        refine wpSeg_want (by rfl) (fun K' hK => ?_)
        go_simp
        refine hK _ _ ?_
        clear hK K'
        (try simp only [Act.put, List.setIfInBounds_toArray, List.set_cons_zero, List.set_cons_succ])
        show wpAny _ _ _ _ _ _ _ _
        exact T30 _ _ _ _ _ _ _ _ _ _ _ _ _ _ _ _ _ _ _ _ _ _ _ _ _ _ _ _ _ _ _ _ _ _ _ _ _ _ _ _ _ _ _ _ _ _ _ _ _ _ _ _ _ _ _ _ _ _ _ _ _ _ _ _ _ _ _ _ _ _ hW' 
      have T26 : ∀ (s6 s11 s12 s13 s14 s15 s16 s17 s18 s19 s20 s21 s22 s23 s24 s25 s26 s27 s28 s29 s30 s31 s32 s33 s34 s35 s36 s37 s38 s39 s40 s41 s42 s43 s44 s45 s46 s47 s48 s49 s50 s51 s52 s53 s54 s55 s56 s57 s58 s59 s60 s61 s62 s63 s64 s65 s66 s67 s68 s69 s70 s71 s72 s73 : Value) (X : World), TlK w a b i m c d p q L Q t X → wpAny Try.prog .any ops QQ 29 (fsL 55 26 []) { tmps := #[ptV (.slice a i c) p, ptV (.slice b m d) q, tmV t, .pointer (some ⟨w.heap.size, 0, none⟩), .pointer (some ⟨w.heap.size + 1, 0, none⟩), .pointer (some ⟨w.heap.size + 1 + 1, 0, none⟩), s6, .int .i64 A, .int .i64 B, .int .i64 A, .int .i64 B, s11, s12, s13, s14, s15, s16, s17, s18, s19, s20, s21, s22, s23, s24, s25, s26, s27, s28, s29, s30, s31, s32, s33, s34, s35, s36, s37, s38, s39, s40, s41, s42, s43, s44, s45, s46, s47, s48, s49, s50, s51, s52, s53, s54, s55, s56, s57, s58, s59, s60, s61, s62, s63, s64, s65, s66, s67, s68, s69, s70, s71, s72, s73, .bool true, .int .i64 B, undef, undef, undef, undef, undef, undef, undef, undef, undef, undef, undef, undef, undef, undef, undef, undef, undef, undef, undef, undef, undef, undef, undef, undef, undef, undef, undef, undef], defers := [] } X := by
        as_aux_lemma =>
        intro s6 s11 s12 s13 s14 s15 s16 s17 s18 s19 s20 s21 s22 s23 s24 s25 s26 s27 s28 s29 s30 s31 s32 s33 s34 s35 s36 s37 s38 s39 s40 s41 s42 s43 s44 s45 s46 s47 s48 s49 s50 s51 s52 s53 s54 s55 s56 s57 s58 s59 s60 s61 s62 s63 s64 s65 s66 s67 s68 s69 s70 s71 s72 s73 X hW'
        obtain ⟨z0, z1, z2, z3, z4, z5, z6, z7⟩ := hW'.cells
        refine any_seg (fu := 28) (l2 := fsL 55 27 []) [26] (by rfl) (by rw [← hops]; kernel_rfl) ?_
        obtain ⟨lz, hlz⟩ : ∃ l, atL ops [26] = l := ⟨_, rfl⟩
        rw [hlz]
        rw [← hops] at hlz
        simp only [atL, List.filterMap_cons, List.filterMap_nil, List.getElem?_toArray, List.getElem?_cons_succ, List.getElem?_cons_zero] at hlz
        subst hlz
        refine wpSeg_want (by rw [← hops]; kernel_rfl) (fun K' hK => ?_)
        go_simp
        refine hK _ _ ?_
        clear hK K'
        (try simp only [Act.put, List.setIfInBounds_toArray, List.set_cons_zero, List.set_cons_succ])
        show wpAny _ _ _ _ _ _ _ _
        exact T27 _ _ _ _ _ _ _ _ _ _ _ _ _ _ _ _ _ _ _ _ _ _ _ _ _ _ _ _ _ _ _ _ _ _ _ _ _ _ _ _ _ _ _ _ _ _ _ _ _ _ _ _ _ _ _ _ _ _ _ _ _ _ _ _ _ hW' 
      have T25_26 : ∀ (s6 s11 s12 s13 s14 s15 s16 s17 s18 s19 s20 s21 s22 s23 s24 s25 s26 s27 s28 s29 s30 s31 s32 s33 s34 s35 s36 s37 s38 s39 s40 s41 s42 s43 s44 s45 s46 s47 s48 s49 s50 s51 s52 s53 s54 s55 s56 s57 s58 s59 s60 s61 s62 s63 s64 s65 s66 s67 s68 s69 s70 s71 s72 s73 : Value) (X : World), TlK w a b i m c d p q L Q t X → wpAny Try.prog .any ops QQ 29 (fsL 55 25 [26]) { tmps := #[ptV (.slice a i c) p, ptV (.slice b m d) q, tmV t, .pointer (some ⟨w.heap.size, 0, none⟩), .pointer (some ⟨w.heap.size + 1, 0, none⟩), .pointer (some ⟨w.heap.size + 1 + 1, 0, none⟩), s6, .int .i64 A, .int .i64 B, .int .i64 A, .int .i64 B, s11, s12, s13, s14, s15, s16, s17, s18, s19, s20, s21, s22, s23, s24, s25, s26, s27, s28, s29, s30, s31, s32, s33, s34, s35, s36, s37, s38, s39, s40, s41, s42, s43, s44, s45, s46, s47, s48, s49, s50, s51, s52, s53, s54, s55, s56, s57, s58, s59, s60, s61, s62, s63, s64, s65, s66, s67, s68, s69, s70, s71, s72, s73, .bool true, undef, .int .i64 B, undef, undef, undef, undef, undef, undef, undef, undef, undef, undef, undef, undef, undef, undef, undef, undef, undef, undef, undef, undef, undef, undef, undef, undef, undef, undef, undef], defers := [] } X := by
        as_aux_lemma =>
        intro s6 s11 s12 s13 s14 s15 s16 s17 s18 s19 s20 s21 s22 s23 s24 s25 s26 s27 s28 s29 s30 s31 s32 s33 s34 s35 s36 s37 s38 s39 s40 s41 s42 s43 s44 s45 s46 s47 s48 s49 s50 s51 s52 s53 s54 s55 s56 s57 s58 s59 s60 s61 s62 s63 s64 s65 s66 s67 s68 s69 s70 s71 s72 s73 X hW'
        obtain ⟨z0, z1, z2, z3, z4, z5, z6, z7⟩ := hW'.cells
        refine any_seg (fu := 28) (l2 := fsL 55 27 []) [25] (by rfl) (by rw [← hops]; kernel_rfl) ?_
        obtain ⟨lz, hlz⟩ : ∃ l, atL ops [25] = l := ⟨_, rfl⟩
        rw [hlz]
        rw [← hops] at hlz
        simp only [atL, List.filterMap_cons, List.filterMap_nil, List.getElem?_toArray, List.getElem?_cons_succ, List.getElem?_cons_zero] at hlz
        subst hlz
        refine wpSeg_want (by rw [← hops]; kernel_rfl) (fun K' hK => ?_)
        go_simp
        refine hK _ _ ?_
        clear hK K'
        (try simp only [Act.put, List.setIfInBounds_toArray, List.set_cons_zero, List.set_cons_succ])
        show wpAny _ _ _ _ _ _ _ _
        exact T27 _ _ _ _ _ _ _ _ _ _ _ _ _ _ _ _ _ _ _ _ _ _ _ _ _ _ _ _ _ _ _ _ _ _ _ _ _ _ _ _ _ _ _ _ _ _ _ _ _ _ _ _ _ _ _ _ _ _ _ _ _ _ _ _ _ hW' 
      have T25 : ∀ (s6 s11 s12 s13 s14 s15 s16 s17 s18 s19 s20 s21 s22 s23 s24 s25 s26 s27 s28 s29 s30 s31 s32 s33 s34 s35 s36 s37 s38 s39 s40 s41 s42 s43 s44 s45 s46 s47 s48 s49 s50 s51 s52 s53 s54 s55 s56 s57 s58 s59 s60 s61 s62 s63 s64 s65 s66 s67 s68 s69 s70 s71 s72 s73 : Value) (X : World), TlK w a b i m c d p q L Q t X → wpAny Try.prog .any ops QQ 30 (fsL 55 25 []) { tmps := #[ptV (.slice a i c) p, ptV (.slice b m d) q, tmV t, .pointer (some ⟨w.heap.size, 0, none⟩), .pointer (some ⟨w.heap.size + 1, 0, none⟩), .pointer (some ⟨w.heap.size + 1 + 1, 0, none⟩), s6, .int .i64 A, .int .i64 B, .int .i64 A, .int .i64 B, s11, s12, s13, s14, s15, s16, s17, s18, s19, s20, s21, s22, s23, s24, s25, s26, s27, s28, s29, s30, s31, s32, s33, s34, s35, s36, s37, s38, s39, s40, s41, s42, s43, s44, s45, s46, s47, s48, s49, s50, s51, s52, s53, s54, s55, s56, s57, s58, s59, s60, s61, s62, s63, s64, s65, s66, s67, s68, s69, s70, s71, s72, s73, .bool true, undef, undef, undef, undef, undef, undef, undef, undef, undef, undef, undef, undef, undef, undef, undef, undef, undef, undef, undef, undef, undef, undef, undef, undef, undef, undef, undef, undef, undef], defers := [] } X := by
        as_aux_lemma =>
        intro s6 s11 s12 s13 s14 s15 s16 s17 s18 s19 s20 s21 s22 s23 s24 s25 s26 s27 s28 s29 s30 s31 s32 s33 s34 s35 s36 s37 s38 s39 s40 s41 s42 s43 s44 s45 s46 s47 s48 s49 s50 s51 s52 s53 s54 s55 s56 s57 s58 s59 s60 s61 s62 s63 s64 s65 s66 s67 s68 s69 s70 s71 s72 s73 X hW'
        obtain ⟨z0, z1, z2, z3, z4, z5, z6, z7⟩ := hW'.cells
        refine any_fork (f1 := 29) [25, 26] (by rw [← hops]; kernel_rfl) (by simp) (by rw [← hops]; kernel_rfl) (by rfl) ?_
        intro ix hix
        simp only [List.mem_cons, List.not_mem_nil, or_false] at hix
        rcases hix with rfl | rfl
        · obtain ⟨lz, hlz⟩ : ∃ l, atL ops [25] = l := ⟨_, rfl⟩
          rw [hlz]
          rw [← hops] at hlz
          simp only [atL, List.filterMap_cons, List.filterMap_nil, List.getElem?_toArray, List.getElem?_cons_succ, List.getElem?_cons_zero] at hlz
          subst hlz
          refine wpSeg_want (by rw [← hops]; kernel_rfl) (fun K' hK => ?_)
          go_simp
          refine hK _ _ ?_
          clear hK K'
          (try simp only [Act.put, List.setIfInBounds_toArray, List.set_cons_zero, List.set_cons_succ])
          show wpAny _ _ _ _ _ _ _ _
          rw [show (fsL 55 25 []).setIfInBounds 25 true = fsL 55 26 [] from by kernel_rfl]
          exact T26 _ _ _ _ _ _ _ _ _ _ _ _ _ _ _ _ _ _ _ _ _ _ _ _ _ _ _ _ _ _ _ _ _ _ _ _ _ _ _ _ _ _ _ _ _ _ _ _ _ _ _ _ _ _ _ _ _ _ _ _ _ _ _ _ _ hW' 
        · obtain ⟨lz, hlz⟩ : ∃ l, atL ops [26] = l := ⟨_, rfl⟩
          rw [hlz]
          rw [← hops] at hlz
          simp only [atL, List.filterMap_cons, List.filterMap_nil, List.getElem?_toArray, List.getElem?_cons_succ, List.getElem?_cons_zero] at hlz
          subst hlz
          refine wpSeg_want (by rw [← hops]; kernel_rfl) (fun K' hK => ?_)
          go_simp
          refine hK _ _ ?_
          clear hK K'
          (try simp only [Act.put, List.setIfInBounds_toArray, List.set_cons_zero, List.set_cons_succ])
          show wpAny _ _ _ _ _ _ _ _
          rw [show (fsL 55 25 []).setIfInBounds 26 true = fsL 55 25 [26] from by kernel_rfl]
          exact T25_26 _ _ _ _ _ _ _ _ _ _ _ _ _ _ _ _ _ _ _ _ _ _ _ _ _ _ _ _ _ _ _ _ _ _ _ _ _ _ _ _ _ _ _ _ _ _ _ _ _ _ _ _ _ _ _ _ _ _ _ _ _ _ _ _ _ hW' 
      have T22 : ∀ (s6 s11 s12 s13 s14 s15 s16 s17 s18 s19 s20 s21 s22 s23 s24 s25 s26 s27 s28 s29 s30 s31 s32 s33 s34 s35 s36 s37 s38 s39 s40 s41 s42 s43 s44 s45 s46 s47 s48 s49 s50 s51 s52 s53 s54 s55 s56 s57 s58 s59 s60 s61 s62 s63 s64 s65 s66 s67 s68 : Value) (X : World), TlK w a b i m c d p q L Q t X → wpAny Try.prog .any ops QQ 33 (fsL 55 22 []) { tmps := #[ptV (.slice a i c) p, ptV (.slice b m d) q, tmV t, .pointer (some ⟨w.heap.size, 0, none⟩), .pointer (some ⟨w.heap.size + 1, 0, none⟩), .pointer (some ⟨w.heap.size + 1 + 1, 0, none⟩), s6, .int .i64 A, .int .i64 B, .int .i64 A, .int .i64 B, s11, s12, s13, s14, s15, s16, s17, s18, s19, s20, s21, s22, s23, s24, s25, s26, s27, s28, s29, s30, s31, s32, s33, s34, s35, s36, s37, s38, s39, s40, s41, s42, s43, s44, s45, s46, s47, s48, s49, s50, s51, s52, s53, s54, s55, s56, s57, s58, s59, s60, s61, s62, s63, s64, s65, s66, s67, s68, .bool true, .int .i64 A, .int .i64 A, undef, undef, undef, undef, undef, undef, undef, undef, undef, undef, undef, undef, undef, undef, undef, undef, undef, undef, undef, undef, undef, undef, undef, undef, undef, undef, undef, undef, undef, undef, undef, undef], defers := [] } X := by
        as_aux_lemma =>
        intro s6 s11 s12 s13 s14 s15 s16 s17 s18 s19 s20 s21 s22 s23 s24 s25 s26 s27 s28 s29 s30 s31 s32 s33 s34 s35 s36 s37 s38 s39 s40 s41 s42 s43 s44 s45 s46 s47 s48 s49 s50 s51 s52 s53 s54 s55 s56 s57 s58 s59 s60 s61 s62 s63 s64 s65 s66 s67 s68 X hW'
        obtain ⟨z0, z1, z2, z3, z4, z5, z6, z7⟩ := hW'.cells
        refine any_seg (fu := 30) (l2 := fsL 55 25 []) [22, 23, 24] (by rfl) (by rw [← hops]; kernel_rfl) ?_
        obtain ⟨lz, hlz⟩ : ∃ l, atL ops [22, 23, 24] = l := ⟨_, rfl⟩
        rw [hlz]
        rw [← hops] at hlz
        simp only [atL, List.filterMap_cons, List.filterMap_nil, List.getElem?_toArray, List.getElem?_cons_succ, List.getElem?_cons_zero] at hlz
        subst hlz
        refine wpSeg_want (by rw [← hops]; kernel_rfl) (fun K' hK => ?_)
        go_simp
        refine hK _ _ ?_
        clear hK K'
        (try simp only [Act.put, List.setIfInBounds_toArray, List.set_cons_zero, List.set_cons_succ])
        refine wpSeg_want (by rfl) (fun K' hK => ?_)
        go_simp
        refine hK _ _ ?_
        clear hK K'
        (try simp only [Act.put, List.setIfInBounds_toArray, List.set_cons_zero, List.set_cons_succ])
        refine wpSeg_want (by rfl) (fun K' hK => ?_)
        go_simp
        refine hK _ _ ?_
        clear hK K'
        (try simp only [Act.put, List.setIfInBounds_toArray, List.set_cons_zero, List.set_cons_succ])
        show wpAny _ _ _ _ _ _ _ _
        exact T25 _ _ _ _ _ _ _ _ _ _ _ _ _ _ _ _ _ _ _ _ _ _ _ _ _ _ _ _ _ _ _ _ _ _ _ _ _ _ _ _ _ _ _ _ _ _ _ _ _ _ _ _ _ _ _ _ _ _ _ _ _ _ _ _ _ hW' 
      have T20_21 : ∀ (s6 s11 s12 s13 s14 s15 s16 s17 s18 s19 s20 s21 s22 s23 s24 s25 s26 s27 s28 s29 s30 s31 s32 s33 s34 s35 s36 s37 s38 s39 s40 s41 s42 s43 s44 s45 s46 s47 s48 s49 s50 s51 s52 s53 s54 s55 s56 s57 s58 s59 s60 s61 s62 s63 s64 s65 s66 s67 s68 : Value) (X : World), TlK w a b i m c d p q L Q t X → wpAny Try.prog .any ops QQ 34 (fsL 55 20 [21]) { tmps := #[ptV (.slice a i c) p, ptV (.slice b m d) q, tmV t, .pointer (some ⟨w.heap.size, 0, none⟩), .pointer (some ⟨w.heap.size + 1, 0, none⟩), .pointer (some ⟨w.heap.size + 1 + 1, 0, none⟩), s6, .int .i64 A, .int .i64 B, .int .i64 A, .int .i64 B, s11, s12, s13, s14, s15, s16, s17, s18, s19, s20, s21, s22, s23, s24, s25, s26, s27, s28, s29, s30, s31, s32, s33, s34, s35, s36, s37, s38, s39, s40, s41, s42, s43, s44, s45, s46, s47, s48, s49, s50, s51, s52, s53, s54, s55, s56, s57, s58, s59, s60, s61, s62, s63, s64, s65, s66, s67, s68, .bool true, undef, .int .i64 A, undef, undef, undef, undef, undef, undef, undef, undef, undef, undef, undef, undef, undef, undef, undef, undef, undef, undef, undef, undef, undef, undef, undef, undef, undef, undef, undef, undef, undef, undef, undef, undef], defers := [] } X := by
        as_aux_lemma =>
        intro s6 s11 s12 s13 s14 s15 s16 s17 s18 s19 s20 s21 s22 s23 s24 s25 s26 s27 s28 s29 s30 s31 s32 s33 s34 s35 s36 s37 s38 s39 s40 s41 s42 s43 s44 s45 s46 s47 s48 s49 s50 s51 s52 s53 s54 s55 s56 s57 s58 s59 s60 s61 s62 s63 s64 s65 s66 s67 s68 X hW'
        obtain ⟨z0, z1, z2, z3, z4, z5, z6, z7⟩ := hW'.cells
        refine any_seg (fu := 33) (l2 := fsL 55 22 []) [20] (by rfl) (by rw [← hops]; kernel_rfl) ?_
        obtain ⟨lz, hlz⟩ : ∃ l, atL ops [20] = l := ⟨_, rfl⟩
        rw [hlz]
        rw [← hops] at hlz
        simp only [atL, List.filterMap_cons, List.filterMap_nil, List.getElem?_toArray, List.getElem?_cons_succ, List.getElem?_cons_zero] at hlz
        subst hlz
        refine wpSeg_want (by rw [← hops]; kernel_rfl) (fun K' hK => ?_)
        go_simp
        refine hK _ _ ?_
        clear hK K'
        (try simp only [Act.put, List.setIfInBounds_toArray, List.set_cons_zero, List.set_cons_succ])
        show wpAny _ _ _ _ _ _ _ _
        exact T22 _ _ _ _ _ _ _ _ _ _ _ _ _ _ _ _ _ _ _ _ _ _ _ _ _ _ _ _ _ _ _ _ _ _ _ _ _ _ _ _ _ _ _ _ _ _ _ _ _ _ _ _ _ _ _ _ _ _ _ _ hW' 
      have T21 : ∀ (s6 s11 s12 s13 s14 s15 s16 s17 s18 s19 s20 s21 s22 s23 s24 s25 s26 s27 s28 s29 s30 s31 s32 s33 s34 s35 s36 s37 s38 s39 s40 s41 s42 s43 s44 s45 s46 s47 s48 s49 s50 s51 s52 s53 s54 s55 s56 s57 s58 s59 s60 s61 s62 s63 s64 s65 s66 s67 s68 : Value) (X : World), TlK w a b i m c d p q L Q t X → wpAny Try.prog .any ops QQ 34 (fsL 55 21 []) { tmps := #[ptV (.slice a i c) p, ptV (.slice b m d) q, tmV t, .pointer (some ⟨w.heap.size, 0, none⟩), .pointer (some ⟨w.heap.size + 1, 0, none⟩), .pointer (some ⟨w.heap.size + 1 + 1, 0, none⟩), s6, .int .i64 A, .int .i64 B, .int .i64 A, .int .i64 B, s11, s12, s13, s14, s15, s16, s17, s18, s19, s20, s21, s22, s23, s24, s25, s26, s27, s28, s29, s30, s31, s32, s33, s34, s35, s36, s37, s38, s39, s40, s41, s42, s43, s44, s45, s46, s47, s48, s49, s50, s51, s52, s53, s54, s55, s56, s57, s58, s59, s60, s61, s62, s63, s64, s65, s66, s67, s68, .bool true, .int .i64 A, undef, undef, undef, undef, undef, undef, undef, undef, undef, undef, undef, undef, undef, undef, undef, undef, undef, undef, undef, undef, undef, undef, undef, undef, undef, undef, undef, undef, undef, undef, undef, undef, undef], defers := [] } X := by
        as_aux_lemma =>
        intro s6 s11 s12 s13 s14 s15 s16 s17 s18 s19 s20 s21 s22 s23 s24 s25 s26 s27 s28 s29 s30 s31 s32 s33 s34 s35 s36 s37 s38 s39 s40 s41 s42 s43 s44 s45 s46 s47 s48 s49 s50 s51 s52 s53 s54 s55 s56 s57 s58 s59 s60 s61 s62 s63 s64 s65 s66 s67 s68 X hW'
        obtain ⟨z0, z1, z2, z3, z4, z5, z6, z7⟩ := hW'.cells
        refine any_seg (fu := 33) (l2 := fsL 55 22 []) [21] (by rfl) (by rw [← hops]; kernel_rfl) ?_
        obtain ⟨lz, hlz⟩ : ∃ l, atL ops [21] = l := ⟨_, rfl⟩
        rw [hlz]
        rw [← hops] at hlz
        simp only [atL, List.filterMap_cons, List.filterMap_nil, List.getElem?_toArray, List.getElem?_cons_succ, List.getElem?_cons_zero] at hlz
        subst hlz
        refine wpSeg_want (by rw [← hops]; kernel_rfl) (fun K' hK => ?_)
        go_simp
        refine hK _ _ ?_
        clear hK K'
        (try simp only [Act.put, List.setIfInBounds_toArray, List.set_cons_zero, List.set_cons_succ])
        show wpAny _ _ _ _ _ _ _ _
        exact T22 _ _ _ _ _ _ _ _ _ _ _ _ _ _ _ _ _ _ _ _ _ _ _ _ _ _ _ _ _ _ _ _ _ _ _ _ _ _ _ _ _ _ _ _ _ _ _ _ _ _ _ _ _ _ _ _ _ _ _ _ hW' 
      have T20 : ∀ (s6 s11 s12 s13 s14 s15 s16 s17 s18 s19 s20 s21 s22 s23 s24 s25 s26 s27 s28 s29 s30 s31 s32 s33 s34 s35 s36 s37 s38 s39 s40 s41 s42 s43 s44 s45 s46 s47 s48 s49 s50 s51 s52 s53 s54 s55 s56 s57 s58 s59 s60 s61 s62 s63 s64 s65 s66 s67 s68 : Value) (X : World), TlK w a b i m c d p q L Q t X → wpAny Try.prog .any ops QQ 35 (fsL 55 20 []) { tmps := #[ptV (.slice a i c) p, ptV (.slice b m d) q, tmV t, .pointer (some ⟨w.heap.size, 0, none⟩), .pointer (some ⟨w.heap.size + 1, 0, none⟩), .pointer (some ⟨w.heap.size + 1 + 1, 0, none⟩), s6, .int .i64 A, .int .i64 B, .int .i64 A, .int .i64 B, s11, s12, s13, s14, s15, s16, s17, s18, s19, s20, s21, s22, s23, s24, s25, s26, s27, s28, s29, s30, s31, s32, s33, s34, s35, s36, s37, s38, s39, s40, s41, s42, s43, s44, s45, s46, s47, s48, s49, s50, s51, s52, s53, s54, s55, s56, s57, s58, s59, s60, s61, s62, s63, s64, s65, s66, s67, s68, .bool true, undef, undef, undef, undef, undef, undef, undef, undef, undef, undef, undef, undef, undef, undef, undef, undef, undef, undef, undef, undef, undef, undef, undef, undef, undef, undef, undef, undef, undef, undef, undef, undef, undef, undef], defers := [] } X := by
        as_aux_lemma =>
        intro s6 s11 s12 s13 s14 s15 s16 s17 s18 s19 s20 s21 s22 s23 s24 s25 s26 s27 s28 s29 s30 s31 s32 s33 s34 s35 s36 s37 s38 s39 s40 s41 s42 s43 s44 s45 s46 s47 s48 s49 s50 s51 s52 s53 s54 s55 s56 s57 s58 s59 s60 s61 s62 s63 s64 s65 s66 s67 s68 X hW'
        obtain ⟨z0, z1, z2, z3, z4, z5, z6, z7⟩ := hW'.cells
        refine any_fork (f1 := 34) [20, 21] (by rw [← hops]; kernel_rfl) (by simp) (by rw [← hops]; kernel_rfl) (by rfl) ?_
        intro ix hix
        simp only [List.mem_cons, List.not_mem_nil, or_false] at hix
        rcases hix with rfl | rfl
        · obtain ⟨lz, hlz⟩ : ∃ l, atL ops [20] = l := ⟨_, rfl⟩
          rw [hlz]
          rw [← hops] at hlz
          simp only [atL, List.filterMap_cons, List.filterMap_nil, List.getElem?_toArray, List.getElem?_cons_succ, List.getElem?_cons_zero] at hlz
          subst hlz
          refine wpSeg_want (by rw [← hops]; kernel_rfl) (fun K' hK => ?_)
          go_simp
          refine hK _ _ ?_
          clear hK K'
          (try simp only [Act.put, List.setIfInBounds_toArray, List.set_cons_zero, List.set_cons_succ])
          show wpAny _ _ _ _ _ _ _ _
          rw [show (fsL 55 20 []).setIfInBounds 20 true = fsL 55 21 [] from by kernel_rfl]
          exact T21 _ _ _ _ _ _ _ _ _ _ _ _ _ _ _ _ _ _ _ _ _ _ _ _ _ _ _ _ _ _ _ _ _ _ _ _ _ _ _ _ _ _ _ _ _ _ _ _ _ _ _ _ _ _ _ _ _ _ _ _ hW' 
        · obtain ⟨lz, hlz⟩ : ∃ l, atL ops [21] = l := ⟨_, rfl⟩
          rw [hlz]
          rw [← hops] at hlz
          simp only [atL, List.filterMap_cons, List.filterMap_nil, List.getElem?_toArray, List.getElem?_cons_succ, List.getElem?_cons_zero] at hlz
          subst hlz
          refine wpSeg_want (by rw [← hops]; kernel_rfl) (fun K' hK => ?_)
          go_simp
          refine hK _ _ ?_
          clear hK K'
          (try simp only [Act.put, List.setIfInBounds_toArray, List.set_cons_zero, List.set_cons_succ])
          show wpAny _ _ _ _ _ _ _ _
          rw [show (fsL 55 20 []).setIfInBounds 21 true = fsL 55 20 [21] from by kernel_rfl]
          exact T20_21 _ _ _ _ _ _ _ _ _ _ _ _ _ _ _ _ _ _ _ _ _ _ _ _ _ _ _ _ _ _ _ _ _ _ _ _ _ _ _ _ _ _ _ _ _ _ _ _ _ _ _ _ _ _ _ _ _ _ _ _ hW' 
      have T16 : ∀ (s6 s11 s12 s13 s14 s15 s16 s17 s18 s19 s20 s21 s22 s23 s24 s25 s26 s27 s28 s29 s30 s31 s32 s33 s34 s35 s36 s37 s38 s39 s40 s41 s42 s43 s44 s45 s46 s47 s48 s49 s50 s51 s52 s53 s54 s55 s56 s57 s58 s59 s60 s61 s63 v14 : Value) (X : World), TlK w a b i m c d p q L Q t X → IntsAt X v14 (posP (L.map (·.1))) → wpAny Try.prog .any ops QQ 39 (fsL 55 16 []) { tmps := #[ptV (.slice a i c) p, ptV (.slice b m d) q, tmV t, .pointer (some ⟨w.heap.size, 0, none⟩), .pointer (some ⟨w.heap.size + 1, 0, none⟩), .pointer (some ⟨w.heap.size + 1 + 1, 0, none⟩), s6, .int .i64 A, .int .i64 B, .int .i64 A, .int .i64 B, s11, s12, s13, s14, s15, s16, s17, s18, s19, s20, s21, s22, s23, s24, s25, s26, s27, s28, s29, s30, s31, s32, s33, s34, s35, s36, s37, s38, s39, s40, s41, s42, s43, s44, s45, s46, s47, s48, s49, s50, s51, s52, s53, s54, s55, s56, s57, s58, s59, s60, s61, .bool true, s63, v14, .agg #[.slice a i c, .int .i64 p], undef, undef, undef, undef, undef, undef, undef, undef, undef, undef, undef, undef, undef, undef, undef, undef, undef, undef, undef, undef, undef, undef, undef, undef, undef, undef, undef, undef, undef, undef, undef, undef, undef, undef, undef, undef, undef, undef], defers := [] } X := by
        as_aux_lemma =>
        intro s6 s11 s12 s13 s14 s15 s16 s17 s18 s19 s20 s21 s22 s23 s24 s25 s26 s27 s28 s29 s30 s31 s32 s33 s34 s35 s36 s37 s38 s39 s40 s41 s42 s43 s44 s45 s46 s47 s48 s49 s50 s51 s52 s53 s54 s55 s56 s57 s58 s59 s60 s61 s63 v14 X hW' f14
        obtain ⟨z0, z1, z2, z3, z4, z5, z6, z7⟩ := hW'.cells
        refine any_seg (fu := 35) (l2 := fsL 55 20 []) [16, 17, 18, 19] (by rfl) (by rw [← hops]; kernel_rfl) ?_
        obtain ⟨lz, hlz⟩ : ∃ l, atL ops [16, 17, 18, 19] = l := ⟨_, rfl⟩
        rw [hlz]
        rw [← hops] at hlz
        simp only [atL, List.filterMap_cons, List.filterMap_nil, List.getElem?_toArray, List.getElem?_cons_succ, List.getElem?_cons_zero] at hlz
        subst hlz
        refine wpSeg_want (by rw [← hops]; kernel_rfl) (fun K' hK => ?_)
        go_simp
        refine (D16.out _ hW').mono ?_
        rintro e Xa ⟨v16, rfl, f16, hW', hb⟩
        dsimp only
        refine hK _ _ ?_
        clear hK K'
        (try simp only [Act.put, List.setIfInBounds_toArray, List.set_cons_zero, List.set_cons_succ])
        clear z0 z1 z2 z3 z4 z5 z6 z7
        obtain ⟨z0, z1, z2, z3, z4, z5, z6, z7⟩ := hW'.cells
        replace f14 := f14.later hb
        refine wpSeg_want (by rw [← hops]; kernel_rfl) (fun K' hK => ?_)
        go_simp
        refine (D17.out _ _ _ f14 f16 hW').mono ?_
        rintro e Xa ⟨rfl, hW', hb⟩
        dsimp only
        refine hK _ _ ?_
        clear hK K'
        (try simp only [Act.put, List.setIfInBounds_toArray, List.set_cons_zero, List.set_cons_succ])
        clear z0 z1 z2 z3 z4 z5 z6 z7
        obtain ⟨z0, z1, z2, z3, z4, z5, z6, z7⟩ := hW'.cells
        refine wpSeg_want (by rfl) (fun K' hK => ?_)
        go_simp
        refine hK _ _ ?_
        clear hK K'
        (try simp only [Act.put, List.setIfInBounds_toArray, List.set_cons_zero, List.set_cons_succ])
        refine wpSeg_want (by rfl) (fun K' hK => ?_)
        go_simp
        refine hK _ _ ?_
        clear hK K'
        (try simp only [Act.put, List.setIfInBounds_toArray, List.set_cons_zero, List.set_cons_succ])
        show wpAny _ _ _ _ _ _ _ _
        exact T20 _ _ _ _ _ _ _ _ _ _ _ _ _ _ _ _ _ _ _ _ _ _ _ _ _ _ _ _ _ _ _ _ _ _ _ _ _ _ _ _ _ _ _ _ _ _ _ _ _ _ _ _ _ _ _ _ _ _ _ _ hW' 
      have T15 : ∀ (s6 s11 s12 s13 s14 s15 s16 s17 s18 s19 s20 s21 s22 s23 s24 s25 s26 s27 s28 s29 s30 s31 s32 s33 s34 s35 s36 s37 s38 s39 s40 s41 s42 s43 s44 s45 s46 s47 s48 s49 s50 s51 s52 s53 s54 s55 s56 s57 s58 s59 s60 s61 s63 v14 : Value) (X : World), TlK w a b i m c d p q L Q t X → IntsAt X v14 (posP (L.map (·.1))) → wpAny Try.prog .any ops QQ 40 (fsL 55 15 []) { tmps := #[ptV (.slice a i c) p, ptV (.slice b m d) q, tmV t, .pointer (some ⟨w.heap.size, 0, none⟩), .pointer (some ⟨w.heap.size + 1, 0, none⟩), .pointer (some ⟨w.heap.size + 1 + 1, 0, none⟩), s6, .int .i64 A, .int .i64 B, .int .i64 A, .int .i64 B, s11, s12, s13, s14, s15, s16, s17, s18, s19, s20, s21, s22, s23, s24, s25, s26, s27, s28, s29, s30, s31, s32, s33, s34, s35, s36, s37, s38, s39, s40, s41, s42, s43, s44, s45, s46, s47, s48, s49, s50, s51, s52, s53, s54, s55, s56, s57, s58, s59, s60, s61, .bool true, s63, v14, undef, undef, undef, undef, undef, undef, undef, undef, undef, undef, undef, undef, undef, undef, undef, undef, undef, undef, undef, undef, undef, undef, undef, undef, undef, undef, undef, undef, undef, undef, undef, undef, undef, undef, undef, undef, undef, undef, undef], defers := [] } X := by
        as_aux_lemma =>
        intro s6 s11 s12 s13 s14 s15 s16 s17 s18 s19 s20 s21 s22 s23 s24 s25 s26 s27 s28 s29 s30 s31 s32 s33 s34 s35 s36 s37 s38 s39 s40 s41 s42 s43 s44 s45 s46 s47 s48 s49 s50 s51 s52 s53 s54 s55 s56 s57 s58 s59 s60 s61 s63 v14 X hW' f14
        obtain ⟨z0, z1, z2, z3, z4, z5, z6, z7⟩ := hW'.cells
        refine any_seg (fu := 39) (l2 := fsL 55 16 []) [15] (by rfl) (by rw [← hops]; kernel_rfl) ?_
        obtain ⟨lz, hlz⟩ : ∃ l, atL ops [15] = l := ⟨_, rfl⟩
        rw [hlz]
        rw [← hops] at hlz
        simp only [atL, List.filterMap_cons, List.filterMap_nil, List.getElem?_toArray, List.getElem?_cons_succ, List.getElem?_cons_zero] at hlz
        subst hlz
        refine wpSeg_want (by rw [← hops]; kernel_rfl) (fun K' hK => ?_)
        go_simp
        refine hK _ _ ?_
        clear hK K'
        (try simp only [Act.put, List.setIfInBounds_toArray, List.set_cons_zero, List.set_cons_succ])
        show wpAny _ _ _ _ _ _ _ _
        exact T16 _ _ _ _ _ _ _ _ _ _ _ _ _ _ _ _ _ _ _ _ _ _ _ _ _ _ _ _ _ _ _ _ _ _ _ _ _ _ _ _ _ _ _ _ _ _ _ _ _ _ _ _ _ _ _ hW' f14
      have T14_15 : ∀ (s6 s11 s12 s13 s14 s15 s16 s17 s18 s19 s20 s21 s22 s23 s24 s25 s26 s27 s28 s29 s30 s31 s32 s33 s34 s35 s36 s37 s38 s39 s40 s41 s42 s43 s44 s45 s46 s47 s48 s49 s50 s51 s52 s53 s54 s55 s56 s57 s58 s59 s60 s61 : Value) (X : World), TlK w a b i m c d p q L Q t X → wpAny Try.prog .any ops QQ 40 (fsL 55 14 [15]) { tmps := #[ptV (.slice a i c) p, ptV (.slice b m d) q, tmV t, .pointer (some ⟨w.heap.size, 0, none⟩), .pointer (some ⟨w.heap.size + 1, 0, none⟩), .pointer (some ⟨w.heap.size + 1 + 1, 0, none⟩), s6, .int .i64 A, .int .i64 B, .int .i64 A, .int .i64 B, s11, s12, s13, s14, s15, s16, s17, s18, s19, s20, s21, s22, s23, s24, s25, s26, s27, s28, s29, s30, s31, s32, s33, s34, s35, s36, s37, s38, s39, s40, s41, s42, s43, s44, s45, s46, s47, s48, s49, s50, s51, s52, s53, s54, s55, s56, s57, s58, s59, s60, s61, .bool true, .agg #[.slice a i c, .int .i64 p], undef, .agg #[.slice a i c, .int .i64 p], undef, undef, undef, undef, undef, undef, undef, undef, undef, undef, undef, undef, undef, undef, undef, undef, undef, undef, undef, undef, undef, undef, undef, undef, undef, undef, undef, undef, undef, undef, undef, undef, undef, undef, undef, undef, undef, undef], defers := [] } X := by
        as_aux_lemma =>
        intro s6 s11 s12 s13 s14 s15 s16 s17 s18 s19 s20 s21 s22 s23 s24 s25 s26 s27 s28 s29 s30 s31 s32 s33 s34 s35 s36 s37 s38 s39 s40 s41 s42 s43 s44 s45 s46 s47 s48 s49 s50 s51 s52 s53 s54 s55 s56 s57 s58 s59 s60 s61 X hW'
        obtain ⟨z0, z1, z2, z3, z4, z5, z6, z7⟩ := hW'.cells
        refine any_seg (fu := 39) (l2 := fsL 55 16 []) [14] (by rfl) (by rw [← hops]; kernel_rfl) ?_
        obtain ⟨lz, hlz⟩ : ∃ l, atL ops [14] = l := ⟨_, rfl⟩
        rw [hlz]
        rw [← hops] at hlz
        simp only [atL, List.filterMap_cons, List.filterMap_nil, List.getElem?_toArray, List.getElem?_cons_succ, List.getElem?_cons_zero] at hlz
        subst hlz
        refine wpSeg_want (by rw [← hops]; kernel_rfl) (fun K' hK => ?_)
        go_simp
        refine (D14.out _ hW').mono ?_
        rintro e Xa ⟨v14, rfl, f14, hW', hb⟩
        dsimp only
        refine hK _ _ ?_
        clear hK K'
        (try simp only [Act.put, List.setIfInBounds_toArray, List.set_cons_zero, List.set_cons_succ])
        clear z0 z1 z2 z3 z4 z5 z6 z7
        obtain ⟨z0, z1, z2, z3, z4, z5, z6, z7⟩ := hW'.cells
        show wpAny _ _ _ _ _ _ _ _
        exact T16 _ _ _ _ _ _ _ _ _ _ _ _ _ _ _ _ _ _ _ _ _ _ _ _ _ _ _ _ _ _ _ _ _ _ _ _ _ _ _ _ _ _ _ _ _ _ _ _ _ _ _ _ _ _ _ hW' f14
      have T14 : ∀ (s6 s11 s12 s13 s14 s15 s16 s17 s18 s19 s20 s21 s22 s23 s24 s25 s26 s27 s28 s29 s30 s31 s32 s33 s34 s35 s36 s37 s38 s39 s40 s41 s42 s43 s44 s45 s46 s47 s48 s49 s50 s51 s52 s53 s54 s55 s56 s57 s58 s59 s60 s61 : Value) (X : World), TlK w a b i m c d p q L Q t X → wpAny Try.prog .any ops QQ 41 (fsL 55 14 []) { tmps := #[ptV (.slice a i c) p, ptV (.slice b m d) q, tmV t, .pointer (some ⟨w.heap.size, 0, none⟩), .pointer (some ⟨w.heap.size + 1, 0, none⟩), .pointer (some ⟨w.heap.size + 1 + 1, 0, none⟩), s6, .int .i64 A, .int .i64 B, .int .i64 A, .int .i64 B, s11, s12, s13, s14, s15, s16, s17, s18, s19, s20, s21, s22, s23, s24, s25, s26, s27, s28, s29, s30, s31, s32, s33, s34, s35, s36, s37, s38, s39, s40, s41, s42, s43, s44, s45, s46, s47, s48, s49, s50, s51, s52, s53, s54, s55, s56, s57, s58, s59, s60, s61, .bool true, .agg #[.slice a i c, .int .i64 p], undef, undef, undef, undef, undef, undef, undef, undef, undef, undef, undef, undef, undef, undef, undef, undef, undef, undef, undef, undef, undef, undef, undef, undef, undef, undef, undef, undef, undef, undef, undef, undef, undef, undef, undef, undef, undef, undef, undef, undef], defers := [] } X := by
        as_aux_lemma =>
        intro s6 s11 s12 s13 s14 s15 s16 s17 s18 s19 s20 s21 s22 s23 s24 s25 s26 s27 s28 s29 s30 s31 s32 s33 s34 s35 s36 s37 s38 s39 s40 s41 s42 s43 s44 s45 s46 s47 s48 s49 s50 s51 s52 s53 s54 s55 s56 s57 s58 s59 s60 s61 X hW'
        obtain ⟨z0, z1, z2, z3, z4, z5, z6, z7⟩ := hW'.cells
        refine any_fork (f1 := 40) [14, 15] (by rw [← hops]; kernel_rfl) (by simp) (by rw [← hops]; kernel_rfl) (by rfl) ?_
        intro ix hix
        simp only [List.mem_cons, List.not_mem_nil, or_false] at hix
        rcases hix with rfl | rfl
        · obtain ⟨lz, hlz⟩ : ∃ l, atL ops [14] = l := ⟨_, rfl⟩
          rw [hlz]
          rw [← hops] at hlz
          simp only [atL, List.filterMap_cons, List.filterMap_nil, List.getElem?_toArray, List.getElem?_cons_succ, List.getElem?_cons_zero] at hlz
          subst hlz
          refine wpSeg_want (by rw [← hops]; kernel_rfl) (fun K' hK => ?_)
          go_simp
          refine (D14.out _ hW').mono ?_
          rintro e Xa ⟨v14, rfl, f14, hW', hb⟩
          dsimp only
          refine hK _ _ ?_
          clear hK K'
          (try simp only [Act.put, List.setIfInBounds_toArray, List.set_cons_zero, List.set_cons_succ])
          clear z0 z1 z2 z3 z4 z5 z6 z7
          obtain ⟨z0, z1, z2, z3, z4, z5, z6, z7⟩ := hW'.cells
          show wpAny _ _ _ _ _ _ _ _
          rw [show (fsL 55 14 []).setIfInBounds 14 true = fsL 55 15 [] from by kernel_rfl]
          exact T15 _ _ _ _ _ _ _ _ _ _ _ _ _ _ _ _ _ _ _ _ _ _ _ _ _ _ _ _ _ _ _ _ _ _ _ _ _ _ _ _ _ _ _ _ _ _ _ _ _ _ _ _ _ _ _ hW' f14
        · obtain ⟨lz, hlz⟩ : ∃ l, atL ops [15] = l := ⟨_, rfl⟩
          rw [hlz]
          rw [← hops] at hlz
          simp only [atL, List.filterMap_cons, List.filterMap_nil, List.getElem?_toArray, List.getElem?_cons_succ, List.getElem?_cons_zero] at hlz
          subst hlz
          refine wpSeg_want (by rw [← hops]; kernel_rfl) (fun K' hK => ?_)
          go_simp
          refine hK _ _ ?_
          clear hK K'
          (try simp only [Act.put, List.setIfInBounds_toArray, List.set_cons_zero, List.set_cons_succ])
          show wpAny _ _ _ _ _ _ _ _
          rw [show (fsL 55 14 []).setIfInBounds 15 true = fsL 55 14 [15] from by kernel_rfl]
          exact T14_15 _ _ _ _ _ _ _ _ _ _ _ _ _ _ _ _ _ _ _ _ _ _ _ _ _ _ _ _ _ _ _ _ _ _ _ _ _ _ _ _ _ _ _ _ _ _ _ _ _ _ _ _ _ hW' 
      have T13_15 : ∀ (s6 s11 s12 s13 s14 s15 s16 s17 s18 s19 s20 s21 s22 s23 s24 s25 s26 s27 s28 s29 s30 s31 s32 s33 s34 s35 s36 s37 s38 s39 s40 s41 s42 s43 s44 s45 s46 s47 s48 s49 s50 s51 s52 s53 s54 s55 s56 s57 s58 s59 s60 s61 : Value) (X : World), TlK w a b i m c d p q L Q t X → wpAny Try.prog .any ops QQ 41 (fsL 55 13 [15]) { tmps := #[ptV (.slice a i c) p, ptV (.slice b m d) q, tmV t, .pointer (some ⟨w.heap.size, 0, none⟩), .pointer (some ⟨w.heap.size + 1, 0, none⟩), .pointer (some ⟨w.heap.size + 1 + 1, 0, none⟩), s6, .int .i64 A, .int .i64 B, .int .i64 A, .int .i64 B, s11, s12, s13, s14, s15, s16, s17, s18, s19, s20, s21, s22, s23, s24, s25, s26, s27, s28, s29, s30, s31, s32, s33, s34, s35, s36, s37, s38, s39, s40, s41, s42, s43, s44, s45, s46, s47, s48, s49, s50, s51, s52, s53, s54, s55, s56, s57, s58, s59, s60, s61, .bool true, undef, undef, .agg #[.slice a i c, .int .i64 p], undef, undef, undef, undef, undef, undef, undef, undef, undef, undef, undef, undef, undef, undef, undef, undef, undef, undef, undef, undef, undef, undef, undef, undef, undef, undef, undef, undef, undef, undef, undef, undef, undef, undef, undef, undef, undef, undef], defers := [] } X := by
        as_aux_lemma =>
        intro s6 s11 s12 s13 s14 s15 s16 s17 s18 s19 s20 s21 s22 s23 s24 s25 s26 s27 s28 s29 s30 s31 s32 s33 s34 s35 s36 s37 s38 s39 s40 s41 s42 s43 s44 s45 s46 s47 s48 s49 s50 s51 s52 s53 s54 s55 s56 s57 s58 s59 s60 s61 X hW'
        obtain ⟨z0, z1, z2, z3, z4, z5, z6, z7⟩ := hW'.cells
        refine any_seg (fu := 40) (l2 := fsL 55 14 [15]) [13] (by rfl) (by rw [← hops]; kernel_rfl) ?_
        obtain ⟨lz, hlz⟩ : ∃ l, atL ops [13] = l := ⟨_, rfl⟩
        rw [hlz]
        rw [← hops] at hlz
        simp only [atL, List.filterMap_cons, List.filterMap_nil, List.getElem?_toArray, List.getElem?_cons_succ, List.getElem?_cons_zero] at hlz
        subst hlz
        refine wpSeg_want (by rw [← hops]; kernel_rfl) (fun K' hK => ?_)
        go_simp
        refine hK _ _ ?_
        clear hK K'
        (try simp only [Act.put, List.setIfInBounds_toArray, List.set_cons_zero, List.set_cons_succ])
        show wpAny _ _ _ _ _ _ _ _
        exact T14_15 _ _ _ _ _ _ _ _ _ _ _ _ _ _ _ _ _ _ _ _ _ _ _ _ _ _ _ _ _ _ _ _ _ _ _ _ _ _ _ _ _ _ _ _ _ _ _ _ _ _ _ _ _ hW' 
      have T13 : ∀ (s6 s11 s12 s13 s14 s15 s16 s17 s18 s19 s20 s21 s22 s23 s24 s25 s26 s27 s28 s29 s30 s31 s32 s33 s34 s35 s36 s37 s38 s39 s40 s41 s42 s43 s44 s45 s46 s47 s48 s49 s50 s51 s52 s53 s54 s55 s56 s57 s58 s59 s60 s61 : Value) (X : World), TlK w a b i m c d p q L Q t X → wpAny Try.prog .any ops QQ 42 (fsL 55 13 []) { tmps := #[ptV (.slice a i c) p, ptV (.slice b m d) q, tmV t, .pointer (some ⟨w.heap.size, 0, none⟩), .pointer (some ⟨w.heap.size + 1, 0, none⟩), .pointer (some ⟨w.heap.size + 1 + 1, 0, none⟩), s6, .int .i64 A, .int .i64 B, .int .i64 A, .int .i64 B, s11, s12, s13, s14, s15, s16, s17, s18, s19, s20, s21, s22, s23, s24, s25, s26, s27, s28, s29, s30, s31, s32, s33, s34, s35, s36, s37, s38, s39, s40, s41, s42, s43, s44, s45, s46, s47, s48, s49, s50, s51, s52, s53, s54, s55, s56, s57, s58, s59, s60, s61, .bool true, undef, undef, undef, undef, undef, undef, undef, undef, undef, undef, undef, undef, undef, undef, undef, undef, undef, undef, undef, undef, undef, undef, undef, undef, undef, undef, undef, undef, undef, undef, undef, undef, undef, undef, undef, undef, undef, undef, undef, undef, undef], defers := [] } X := by
        as_aux_lemma =>
        intro s6 s11 s12 s13 s14 s15 s16 s17 s18 s19 s20 s21 s22 s23 s24 s25 s26 s27 s28 s29 s30 s31 s32 s33 s34 s35 s36 s37 s38 s39 s40 s41 s42 s43 s44 s45 s46 s47 s48 s49 s50 s51 s52 s53 s54 s55 s56 s57 s58 s59 s60 s61 X hW'
        obtain ⟨z0, z1, z2, z3, z4, z5, z6, z7⟩ := hW'.cells
        refine any_fork (f1 := 41) [13, 15] (by rw [← hops]; kernel_rfl) (by simp) (by rw [← hops]; kernel_rfl) (by rfl) ?_
        intro ix hix
        simp only [List.mem_cons, List.not_mem_nil, or_false] at hix
        rcases hix with rfl | rfl
        · obtain ⟨lz, hlz⟩ : ∃ l, atL ops [13] = l := ⟨_, rfl⟩
          rw [hlz]
          rw [← hops] at hlz
          simp only [atL, List.filterMap_cons, List.filterMap_nil, List.getElem?_toArray, List.getElem?_cons_succ, List.getElem?_cons_zero] at hlz
          subst hlz
          refine wpSeg_want (by rw [← hops]; kernel_rfl) (fun K' hK => ?_)
          go_simp
          refine hK _ _ ?_
          clear hK K'
          (try simp only [Act.put, List.setIfInBounds_toArray, List.set_cons_zero, List.set_cons_succ])
          show wpAny _ _ _ _ _ _ _ _
          rw [show (fsL 55 13 []).setIfInBounds 13 true = fsL 55 14 [] from by kernel_rfl]
          exact T14 _ _ _ _ _ _ _ _ _ _ _ _ _ _ _ _ _ _ _ _ _ _ _ _ _ _ _ _ _ _ _ _ _ _ _ _ _ _ _ _ _ _ _ _ _ _ _ _ _ _ _ _ _ hW' 
        · obtain ⟨lz, hlz⟩ : ∃ l, atL ops [15] = l := ⟨_, rfl⟩
          rw [hlz]
          rw [← hops] at hlz
          simp only [atL, List.filterMap_cons, List.filterMap_nil, List.getElem?_toArray, List.getElem?_cons_succ, List.getElem?_cons_zero] at hlz
          subst hlz
          refine wpSeg_want (by rw [← hops]; kernel_rfl) (fun K' hK => ?_)
          go_simp
          refine hK _ _ ?_
          clear hK K'
          (try simp only [Act.put, List.setIfInBounds_toArray, List.set_cons_zero, List.set_cons_succ])
          show wpAny _ _ _ _ _ _ _ _
          rw [show (fsL 55 13 []).setIfInBounds 15 true = fsL 55 13 [15] from by kernel_rfl]
          exact T13_15 _ _ _ _ _ _ _ _ _ _ _ _ _ _ _ _ _ _ _ _ _ _ _ _ _ _ _ _ _ _ _ _ _ _ _ _ _ _ _ _ _ _ _ _ _ _ _ _ _ _ _ _ _ hW' 
      have T9 : ∀ (s6 s11 s12 s13 s14 s15 s16 s17 s18 s19 s20 s21 s22 s23 s24 s25 s26 s27 s28 s29 s30 s31 s32 s33 s34 s35 s36 s37 s38 s39 s40 s41 s42 s43 s44 s45 s46 s47 s48 s49 s50 s51 s52 s53 s54 s56 v7 : Value) (X : World), TlK w a b i m c d p q L Q t X → IntsAt X v7 (namesT t) → wpAny Try.prog .any ops QQ 46 (fsL 55 9 []) { tmps := #[ptV (.slice a i c) p, ptV (.slice b m d) q, tmV t, .pointer (some ⟨w.heap.size, 0, none⟩), .pointer (some ⟨w.heap.size + 1, 0, none⟩), .pointer (some ⟨w.heap.size + 1 + 1, 0, none⟩), s6, .int .i64 A, .int .i64 B, .int .i64 A, .int .i64 B, s11, s12, s13, s14, s15, s16, s17, s18, s19, s20, s21, s22, s23, s24, s25, s26, s27, s28, s29, s30, s31, s32, s33, s34, s35, s36, s37, s38, s39, s40, s41, s42, s43, s44, s45, s46, s47, s48, s49, s50, s51, s52, s53, s54, .bool true, s56, v7, .agg #[.int .u8 t.k, .int .i64 t.n, .int .i64 t.s, .int .i64 t.r], undef, undef, undef, undef, undef, undef, undef, undef, undef, undef, undef, undef, undef, undef, undef, undef, undef, undef, undef, undef, undef, undef, undef, undef, undef, undef, undef, undef, undef, undef, undef, undef, undef, undef, undef, undef, undef, undef, undef, undef, undef, undef, undef, undef, undef], defers := [] } X := by
        as_aux_lemma =>
        intro s6 s11 s12 s13 s14 s15 s16 s17 s18 s19 s20 s21 s22 s23 s24 s25 s26 s27 s28 s29 s30 s31 s32 s33 s34 s35 s36 s37 s38 s39 s40 s41 s42 s43 s44 s45 s46 s47 s48 s49 s50 s51 s52 s53 s54 s56 v7 X hW' f7
        obtain ⟨z0, z1, z2, z3, z4, z5, z6, z7⟩ := hW'.cells
        refine any_seg (fu := 42) (l2 := fsL 55 13 []) [9, 10, 11, 12] (by rfl) (by rw [← hops]; kernel_rfl) ?_
        obtain ⟨lz, hlz⟩ : ∃ l, atL ops [9, 10, 11, 12] = l := ⟨_, rfl⟩
        rw [hlz]
        rw [← hops] at hlz
        simp only [atL, List.filterMap_cons, List.filterMap_nil, List.getElem?_toArray, List.getElem?_cons_succ, List.getElem?_cons_zero] at hlz
        subst hlz
        refine wpSeg_want (by rw [← hops]; kernel_rfl) (fun K' hK => ?_)
        go_simp
        refine (D9.out _ hW').mono ?_
        rintro e Xa ⟨v9, rfl, f9, hW', hb⟩
        dsimp only
        refine hK _ _ ?_
        clear hK K'
        (try simp only [Act.put, List.setIfInBounds_toArray, List.set_cons_zero, List.set_cons_succ])
        clear z0 z1 z2 z3 z4 z5 z6 z7
        obtain ⟨z0, z1, z2, z3, z4, z5, z6, z7⟩ := hW'.cells
        replace f7 := f7.later hb
        refine wpSeg_want (by rw [← hops]; kernel_rfl) (fun K' hK => ?_)
        go_simp
        refine (D10.out _ _ _ f7 f9 hW').mono ?_
        rintro e Xa ⟨rfl, hW', hb⟩
        dsimp only
        refine hK _ _ ?_
        clear hK K'
        (try simp only [Act.put, List.setIfInBounds_toArray, List.set_cons_zero, List.set_cons_succ])
        clear z0 z1 z2 z3 z4 z5 z6 z7
        obtain ⟨z0, z1, z2, z3, z4, z5, z6, z7⟩ := hW'.cells
        refine wpSeg_want (by rfl) (fun K' hK => ?_)
        go_simp
        refine hK _ _ ?_
        clear hK K'
        (try simp only [Act.put, List.setIfInBounds_toArray, List.set_cons_zero, List.set_cons_succ])
        refine wpSeg_want (by rfl) (fun K' hK => ?_)
        go_simp
        refine hK _ _ ?_
        clear hK K'
        (try simp only [Act.put, List.setIfInBounds_toArray, List.set_cons_zero, List.set_cons_succ])
        show wpAny _ _ _ _ _ _ _ _
        exact T13 _ _ _ _ _ _ _ _ _ _ _ _ _ _ _ _ _ _ _ _ _ _ _ _ _ _ _ _ _ _ _ _ _ _ _ _ _ _ _ _ _ _ _ _ _ _ _ _ _ _ _ _ _ hW' 
      have T7_8 : ∀ (s6 s11 s12 s13 s14 s15 s16 s17 s18 s19 s20 s21 s22 s23 s24 s25 s26 s27 s28 s29 s30 s31 s32 s33 s34 s35 s36 s37 s38 s39 s40 s41 s42 s43 s44 s45 s46 s47 s48 s49 s50 s51 s52 s53 s54 : Value) (X : World), TlK w a b i m c d p q L Q t X → wpAny Try.prog .any ops QQ 47 (fsL 55 7 [8]) { tmps := #[ptV (.slice a i c) p, ptV (.slice b m d) q, tmV t, .pointer (some ⟨w.heap.size, 0, none⟩), .pointer (some ⟨w.heap.size + 1, 0, none⟩), .pointer (some ⟨w.heap.size + 1 + 1, 0, none⟩), s6, .int .i64 A, .int .i64 B, .int .i64 A, .int .i64 B, s11, s12, s13, s14, s15, s16, s17, s18, s19, s20, s21, s22, s23, s24, s25, s26, s27, s28, s29, s30, s31, s32, s33, s34, s35, s36, s37, s38, s39, s40, s41, s42, s43, s44, s45, s46, s47, s48, s49, s50, s51, s52, s53, s54, .bool true, .agg #[.int .u8 t.k, .int .i64 t.n, .int .i64 t.s, .int .i64 t.r], undef, .agg #[.int .u8 t.k, .int .i64 t.n, .int .i64 t.s, .int .i64 t.r], undef, undef, undef, undef, undef, undef, undef, undef, undef, undef, undef, undef, undef, undef, undef, undef, undef, undef, undef, undef, undef, undef, undef, undef, undef, undef, undef, undef, undef, undef, undef, undef, undef, undef, undef, undef, undef, undef, undef, undef, undef, undef, undef, undef, undef], defers := [] } X := by
        as_aux_lemma =>
        intro s6 s11 s12 s13 s14 s15 s16 s17 s18 s19 s20 s21 s22 s23 s24 s25 s26 s27 s28 s29 s30 s31 s32 s33 s34 s35 s36 s37 s38 s39 s40 s41 s42 s43 s44 s45 s46 s47 s48 s49 s50 s51 s52 s53 s54 X hW'
        obtain ⟨z0, z1, z2, z3, z4, z5, z6, z7⟩ := hW'.cells
        refine any_seg (fu := 46) (l2 := fsL 55 9 []) [7] (by rfl) (by rw [← hops]; kernel_rfl) ?_
        obtain ⟨lz, hlz⟩ : ∃ l, atL ops [7] = l := ⟨_, rfl⟩
        rw [hlz]
        rw [← hops] at hlz
        simp only [atL, List.filterMap_cons, List.filterMap_nil, List.getElem?_toArray, List.getElem?_cons_succ, List.getElem?_cons_zero] at hlz
        subst hlz
        refine wpSeg_want (by rw [← hops]; kernel_rfl) (fun K' hK => ?_)
        go_simp
        refine (D7.out _ hW').mono ?_
        rintro e Xa ⟨v7, rfl, f7, hW', hb⟩
        dsimp only
        refine hK _ _ ?_
        clear hK K'
        (try simp only [Act.put, List.setIfInBounds_toArray, List.set_cons_zero, List.set_cons_succ])
        clear z0 z1 z2 z3 z4 z5 z6 z7
        obtain ⟨z0, z1, z2, z3, z4, z5, z6, z7⟩ := hW'.cells
        show wpAny _ _ _ _ _ _ _ _
        exact T9 _ _ _ _ _ _ _ _ _ _ _ _ _ _ _ _ _ _ _ _ _ _ _ _ _ _ _ _ _ _ _ _ _ _ _ _ _ _ _ _ _ _ _ _ _ _ _ _ hW' f7
      have T8 : ∀ (s6 s11 s12 s13 s14 s15 s16 s17 s18 s19 s20 s21 s22 s23 s24 s25 s26 s27 s28 s29 s30 s31 s32 s33 s34 s35 s36 s37 s38 s39 s40 s41 s42 s43 s44 s45 s46 s47 s48 s49 s50 s51 s52 s53 s54 s56 v7 : Value) (X : World), TlK w a b i m c d p q L Q t X → IntsAt X v7 (namesT t) → wpAny Try.prog .any ops QQ 47 (fsL 55 8 []) { tmps := #[ptV (.slice a i c) p, ptV (.slice b m d) q, tmV t, .pointer (some ⟨w.heap.size, 0, none⟩), .pointer (some ⟨w.heap.size + 1, 0, none⟩), .pointer (some ⟨w.heap.size + 1 + 1, 0, none⟩), s6, .int .i64 A, .int .i64 B, .int .i64 A, .int .i64 B, s11, s12, s13, s14, s15, s16, s17, s18, s19, s20, s21, s22, s23, s24, s25, s26, s27, s28, s29, s30, s31, s32, s33, s34, s35, s36, s37, s38, s39, s40, s41, s42, s43, s44, s45, s46, s47, s48, s49, s50, s51, s52, s53, s54, .bool true, s56, v7, undef, undef, undef, undef, undef, undef, undef, undef, undef, undef, undef, undef, undef, undef, undef, undef, undef, undef, undef, undef, undef, undef, undef, undef, undef, undef, undef, undef, undef, undef, undef, undef, undef, undef, undef, undef, undef, undef, undef, undef, undef, undef, undef, undef, undef, undef], defers := [] } X := by
        as_aux_lemma =>
        intro s6 s11 s12 s13 s14 s15 s16 s17 s18 s19 s20 s21 s22 s23 s24 s25 s26 s27 s28 s29 s30 s31 s32 s33 s34 s35 s36 s37 s38 s39 s40 s41 s42 s43 s44 s45 s46 s47 s48 s49 s50 s51 s52 s53 s54 s56 v7 X hW' f7
        obtain ⟨z0, z1, z2, z3, z4, z5, z6, z7⟩ := hW'.cells
        refine any_seg (fu := 46) (l2 := fsL 55 9 []) [8] (by rfl) (by rw [← hops]; kernel_rfl) ?_
        obtain ⟨lz, hlz⟩ : ∃ l, atL ops [8] = l := ⟨_, rfl⟩
        rw [hlz]
        rw [← hops] at hlz
        simp only [atL, List.filterMap_cons, List.filterMap_nil, List.getElem?_toArray, List.getElem?_cons_succ, List.getElem?_cons_zero] at hlz
        subst hlz
        refine wpSeg_want (by rw [← hops]; kernel_rfl) (fun K' hK => ?_)
        go_simp
        refine hK _ _ ?_
        clear hK K'
        (try simp only [Act.put, List.setIfInBounds_toArray, List.set_cons_zero, List.set_cons_succ])
        show wpAny _ _ _ _ _ _ _ _
        exact T9 _ _ _ _ _ _ _ _ _ _ _ _ _ _ _ _ _ _ _ _ _ _ _ _ _ _ _ _ _ _ _ _ _ _ _ _ _ _ _ _ _ _ _ _ _ _ _ _ hW' f7
      have T6_8 : ∀ (s6 s11 s12 s13 s14 s15 s16 s17 s18 s19 s20 s21 s22 s23 s24 s25 s26 s27 s28 s29 s30 s31 s32 s33 s34 s35 s36 s37 s38 s39 s40 s41 s42 s43 s44 s45 s46 s47 s48 s49 s50 s51 s52 s53 s54 : Value) (X : World), TlK w a b i m c d p q L Q t X → wpAny Try.prog .any ops QQ 48 (fsL 55 6 [8]) { tmps := #[ptV (.slice a i c) p, ptV (.slice b m d) q, tmV t, .pointer (some ⟨w.heap.size, 0, none⟩), .pointer (some ⟨w.heap.size + 1, 0, none⟩), .pointer (some ⟨w.heap.size + 1 + 1, 0, none⟩), s6, .int .i64 A, .int .i64 B, .int .i64 A, .int .i64 B, s11, s12, s13, s14, s15, s16, s17, s18, s19, s20, s21, s22, s23, s24, s25, s26, s27, s28, s29, s30, s31, s32, s33, s34, s35, s36, s37, s38, s39, s40, s41, s42, s43, s44, s45, s46, s47, s48, s49, s50, s51, s52, s53, s54, .bool true, undef, undef, .agg #[.int .u8 t.k, .int .i64 t.n, .int .i64 t.s, .int .i64 t.r], undef, undef, undef, undef, undef, undef, undef, undef, undef, undef, undef, undef, undef, undef, undef, undef, undef, undef, undef, undef, undef, undef, undef, undef, undef, undef, undef, undef, undef, undef, undef, undef, undef, undef, undef, undef, undef, undef, undef, undef, undef, undef, undef, undef, undef], defers := [] } X := by
        as_aux_lemma =>
        intro s6 s11 s12 s13 s14 s15 s16 s17 s18 s19 s20 s21 s22 s23 s24 s25 s26 s27 s28 s29 s30 s31 s32 s33 s34 s35 s36 s37 s38 s39 s40 s41 s42 s43 s44 s45 s46 s47 s48 s49 s50 s51 s52 s53 s54 X hW'
        obtain ⟨z0, z1, z2, z3, z4, z5, z6, z7⟩ := hW'.cells
        refine any_seg (fu := 47) (l2 := fsL 55 7 [8]) [6] (by rfl) (by rw [← hops]; kernel_rfl) ?_
        obtain ⟨lz, hlz⟩ : ∃ l, atL ops [6] = l := ⟨_, rfl⟩
        rw [hlz]
        rw [← hops] at hlz
        simp only [atL, List.filterMap_cons, List.filterMap_nil, List.getElem?_toArray, List.getElem?_cons_succ, List.getElem?_cons_zero] at hlz
        subst hlz
        refine wpSeg_want (by rw [← hops]; kernel_rfl) (fun K' hK => ?_)
        go_simp
        refine hK _ _ ?_
        clear hK K'
        (try simp only [Act.put, List.setIfInBounds_toArray, List.set_cons_zero, List.set_cons_succ])
        show wpAny _ _ _ _ _ _ _ _
        exact T7_8 _ _ _ _ _ _ _ _ _ _ _ _ _ _ _ _ _ _ _ _ _ _ _ _ _ _ _ _ _ _ _ _ _ _ _ _ _ _ _ _ _ _ _ _ _ _ hW' 
      have T7 : ∀ (s6 s11 s12 s13 s14 s15 s16 s17 s18 s19 s20 s21 s22 s23 s24 s25 s26 s27 s28 s29 s30 s31 s32 s33 s34 s35 s36 s37 s38 s39 s40 s41 s42 s43 s44 s45 s46 s47 s48 s49 s50 s51 s52 s53 s54 : Value) (X : World), TlK w a b i m c d p q L Q t X → wpAny Try.prog .any ops QQ 48 (fsL 55 7 []) { tmps := #[ptV (.slice a i c) p, ptV (.slice b m d) q, tmV t, .pointer (some ⟨w.heap.size, 0, none⟩), .pointer (some ⟨w.heap.size + 1, 0, none⟩), .pointer (some ⟨w.heap.size + 1 + 1, 0, none⟩), s6, .int .i64 A, .int .i64 B, .int .i64 A, .int .i64 B, s11, s12, s13, s14, s15, s16, s17, s18, s19, s20, s21, s22, s23, s24, s25, s26, s27, s28, s29, s30, s31, s32, s33, s34, s35, s36, s37, s38, s39, s40, s41, s42, s43, s44, s45, s46, s47, s48, s49, s50, s51, s52, s53, s54, .bool true, .agg #[.int .u8 t.k, .int .i64 t.n, .int .i64 t.s, .int .i64 t.r], undef, undef, undef, undef, undef, undef, undef, undef, undef, undef, undef, undef, undef, undef, undef, undef, undef, undef, undef, undef, undef, undef, undef, undef, undef, undef, undef, undef, undef, undef, undef, undef, undef, undef, undef, undef, undef, undef, undef, undef, undef, undef, undef, undef, undef, undef, undef], defers := [] } X := by
        as_aux_lemma =>
        intro s6 s11 s12 s13 s14 s15 s16 s17 s18 s19 s20 s21 s22 s23 s24 s25 s26 s27 s28 s29 s30 s31 s32 s33 s34 s35 s36 s37 s38 s39 s40 s41 s42 s43 s44 s45 s46 s47 s48 s49 s50 s51 s52 s53 s54 X hW'
        obtain ⟨z0, z1, z2, z3, z4, z5, z6, z7⟩ := hW'.cells
        refine any_fork (f1 := 47) [7, 8] (by rw [← hops]; kernel_rfl) (by simp) (by rw [← hops]; kernel_rfl) (by rfl) ?_
        intro ix hix
        simp only [List.mem_cons, List.not_mem_nil, or_false] at hix
        rcases hix with rfl | rfl
        · obtain ⟨lz, hlz⟩ : ∃ l, atL ops [7] = l := ⟨_, rfl⟩
          rw [hlz]
          rw [← hops] at hlz
          simp only [atL, List.filterMap_cons, List.filterMap_nil, List.getElem?_toArray, List.getElem?_cons_succ, List.getElem?_cons_zero] at hlz
          subst hlz
          refine wpSeg_want (by rw [← hops]; kernel_rfl) (fun K' hK => ?_)
          go_simp
          refine (D7.out _ hW').mono ?_
          rintro e Xa ⟨v7, rfl, f7, hW', hb⟩
          dsimp only
          refine hK _ _ ?_
          clear hK K'
          (try simp only [Act.put, List.setIfInBounds_toArray, List.set_cons_zero, List.set_cons_succ])
          clear z0 z1 z2 z3 z4 z5 z6 z7
          obtain ⟨z0, z1, z2, z3, z4, z5, z6, z7⟩ := hW'.cells
          show wpAny _ _ _ _ _ _ _ _
          rw [show (fsL 55 7 []).setIfInBounds 7 true = fsL 55 8 [] from by kernel_rfl]
          exact T8 _ _ _ _ _ _ _ _ _ _ _ _ _ _ _ _ _ _ _ _ _ _ _ _ _ _ _ _ _ _ _ _ _ _ _ _ _ _ _ _ _ _ _ _ _ _ _ _ hW' f7
        · obtain ⟨lz, hlz⟩ : ∃ l, atL ops [8] = l := ⟨_, rfl⟩
          rw [hlz]
          rw [← hops] at hlz
          simp only [atL, List.filterMap_cons, List.filterMap_nil, List.getElem?_toArray, List.getElem?_cons_succ, List.getElem?_cons_zero] at hlz
          subst hlz
          refine wpSeg_want (by rw [← hops]; kernel_rfl) (fun K' hK => ?_)
          go_simp
          refine hK _ _ ?_
          clear hK K'
          (try simp only [Act.put, List.setIfInBounds_toArray, List.set_cons_zero, List.set_cons_succ])
          show wpAny _ _ _ _ _ _ _ _
          rw [show (fsL 55 7 []).setIfInBounds 8 true = fsL 55 7 [8] from by kernel_rfl]
          exact T7_8 _ _ _ _ _ _ _ _ _ _ _ _ _ _ _ _ _ _ _ _ _ _ _ _ _ _ _ _ _ _ _ _ _ _ _ _ _ _ _ _ _ _ _ _ _ _ hW' 
      have T6 : ∀ (s6 s11 s12 s13 s14 s15 s16 s17 s18 s19 s20 s21 s22 s23 s24 s25 s26 s27 s28 s29 s30 s31 s32 s33 s34 s35 s36 s37 s38 s39 s40 s41 s42 s43 s44 s45 s46 s47 s48 s49 s50 s51 s52 s53 s54 : Value) (X : World), TlK w a b i m c d p q L Q t X → wpAny Try.prog .any ops QQ 49 (fsL 55 6 []) { tmps := #[ptV (.slice a i c) p, ptV (.slice b m d) q, tmV t, .pointer (some ⟨w.heap.size, 0, none⟩), .pointer (some ⟨w.heap.size + 1, 0, none⟩), .pointer (some ⟨w.heap.size + 1 + 1, 0, none⟩), s6, .int .i64 A, .int .i64 B, .int .i64 A, .int .i64 B, s11, s12, s13, s14, s15, s16, s17, s18, s19, s20, s21, s22, s23, s24, s25, s26, s27, s28, s29, s30, s31, s32, s33, s34, s35, s36, s37, s38, s39, s40, s41, s42, s43, s44, s45, s46, s47, s48, s49, s50, s51, s52, s53, s54, .bool true, undef, undef, undef, undef, undef, undef, undef, undef, undef, undef, undef, undef, undef, undef, undef, undef, undef, undef, undef, undef, undef, undef, undef, undef, undef, undef, undef, undef, undef, undef, undef, undef, undef, undef, undef, undef, undef, undef, undef, undef, undef, undef, undef, undef, undef, undef, undef, undef], defers := [] } X := by
        as_aux_lemma =>
        intro s6 s11 s12 s13 s14 s15 s16 s17 s18 s19 s20 s21 s22 s23 s24 s25 s26 s27 s28 s29 s30 s31 s32 s33 s34 s35 s36 s37 s38 s39 s40 s41 s42 s43 s44 s45 s46 s47 s48 s49 s50 s51 s52 s53 s54 X hW'
        obtain ⟨z0, z1, z2, z3, z4, z5, z6, z7⟩ := hW'.cells
        refine any_fork (f1 := 48) [6, 8] (by rw [← hops]; kernel_rfl) (by simp) (by rw [← hops]; kernel_rfl) (by rfl) ?_
        intro ix hix
        simp only [List.mem_cons, List.not_mem_nil, or_false] at hix
        rcases hix with rfl | rfl
        · obtain ⟨lz, hlz⟩ : ∃ l, atL ops [6] = l := ⟨_, rfl⟩
          rw [hlz]
          rw [← hops] at hlz
          simp only [atL, List.filterMap_cons, List.filterMap_nil, List.getElem?_toArray, List.getElem?_cons_succ, List.getElem?_cons_zero] at hlz
          subst hlz
          refine wpSeg_want (by rw [← hops]; kernel_rfl) (fun K' hK => ?_)
          go_simp
          refine hK _ _ ?_
          clear hK K'
          (try simp only [Act.put, List.setIfInBounds_toArray, List.set_cons_zero, List.set_cons_succ])
          show wpAny _ _ _ _ _ _ _ _
          rw [show (fsL 55 6 []).setIfInBounds 6 true = fsL 55 7 [] from by kernel_rfl]
          exact T7 _ _ _ _ _ _ _ _ _ _ _ _ _ _ _ _ _ _ _ _ _ _ _ _ _ _ _ _ _ _ _ _ _ _ _ _ _ _ _ _ _ _ _ _ _ _ hW' 
        · obtain ⟨lz, hlz⟩ : ∃ l, atL ops [8] = l := ⟨_, rfl⟩
          rw [hlz]
          rw [← hops] at hlz
          simp only [atL, List.filterMap_cons, List.filterMap_nil, List.getElem?_toArray, List.getElem?_cons_succ, List.getElem?_cons_zero] at hlz
          subst hlz
          refine wpSeg_want (by rw [← hops]; kernel_rfl) (fun K' hK => ?_)
          go_simp
          refine hK _ _ ?_
          clear hK K'
          (try simp only [Act.put, List.setIfInBounds_toArray, List.set_cons_zero, List.set_cons_succ])
          show wpAny _ _ _ _ _ _ _ _
          rw [show (fsL 55 6 []).setIfInBounds 8 true = fsL 55 6 [8] from by kernel_rfl]
          exact T6_8 _ _ _ _ _ _ _ _ _ _ _ _ _ _ _ _ _ _ _ _ _ _ _ _ _ _ _ _ _ _ _ _ _ _ _ _ _ _ _ _ _ _ _ _ _ _ hW' 
      have T3 : ∀ (s6 s11 s12 s13 s14 s15 s16 s17 s18 s19 s20 s21 s22 s23 s24 s25 s26 s27 s28 s29 s30 s31 s32 s33 s34 s35 s36 s37 s38 s39 s40 s41 s42 s43 s44 s45 s46 s47 s48 s49 s50 : Value) (X : World), TlK w a b i m c d p q L Q t X → wpAny Try.prog .any ops QQ 52 (fsL 55 3 []) { tmps := #[ptV (.slice a i c) p, ptV (.slice b m d) q, tmV t, .pointer (some ⟨w.heap.size, 0, none⟩), .pointer (some ⟨w.heap.size + 1, 0, none⟩), .pointer (some ⟨w.heap.size + 1 + 1, 0, none⟩), s6, .int .i64 A, .int .i64 B, .int .i64 A, .int .i64 B, s11, s12, s13, s14, s15, s16, s17, s18, s19, s20, s21, s22, s23, s24, s25, s26, s27, s28, s29, s30, s31, s32, s33, s34, s35, s36, s37, s38, s39, s40, s41, s42, s43, s44, s45, s46, s47, s48, s49, s50, .bool R1, .agg #[.slice a i c, .int .i64 p], undef, undef, undef, undef, undef, undef, undef, undef, undef, undef, undef, undef, undef, undef, undef, undef, undef, undef, undef, undef, undef, undef, undef, undef, undef, undef, undef, undef, undef, undef, undef, undef, undef, undef, undef, undef, undef, undef, undef, undef, undef, undef, undef, undef, undef, undef, undef, undef, undef, undef, undef], defers := [] } X := by
        as_aux_lemma =>
        intro s6 s11 s12 s13 s14 s15 s16 s17 s18 s19 s20 s21 s22 s23 s24 s25 s26 s27 s28 s29 s30 s31 s32 s33 s34 s35 s36 s37 s38 s39 s40 s41 s42 s43 s44 s45 s46 s47 s48 s49 s50 X hW'
        obtain ⟨z0, z1, z2, z3, z4, z5, z6, z7⟩ := hW'.cells
        refine any_seg (fu := 49) (l2 := fsL 55 6 []) [3, 4, 5] (by rfl) (by rw [← hops]; kernel_rfl) ?_
        obtain ⟨lz, hlz⟩ : ∃ l, atL ops [3, 4, 5] = l := ⟨_, rfl⟩
        rw [hlz]
        rw [← hops] at hlz
        simp only [atL, List.filterMap_cons, List.filterMap_nil, List.getElem?_toArray, List.getElem?_cons_succ, List.getElem?_cons_zero] at hlz
        subst hlz
        refine wpSeg_want (by rfl) (fun K' hK => ?_)
        go_simp
        refine (D3.out _ hW').mono ?_
        rintro e Xa ⟨rfl, hW', hb⟩
        dsimp only
        refine hK _ _ ?_
        clear hK K'
        (try simp only [Act.put, List.setIfInBounds_toArray, List.set_cons_zero, List.set_cons_succ])
        clear z0 z1 z2 z3 z4 z5 z6 z7
        obtain ⟨z0, z1, z2, z3, z4, z5, z6, z7⟩ := hW'.cells
        refine wpSeg_want (by rfl) (fun K' hK => ?_)
        go_simp
        refine hK _ _ ?_
        clear hK K'
        (try simp only [Act.put, List.setIfInBounds_toArray, List.set_cons_zero, List.set_cons_succ])
        refine wpSeg_want (by rfl) (fun K' hK => ?_)
        go_simp
        refine hK _ _ ?_
        clear hK K'
        (try simp only [Act.put, List.setIfInBounds_toArray, List.set_cons_zero, List.set_cons_succ])
        show wpAny _ _ _ _ _ _ _ _
        exact T6 _ _ _ _ _ _ _ _ _ _ _ _ _ _ _ _ _ _ _ _ _ _ _ _ _ _ _ _ _ _ _ _ _ _ _ _ _ _ _ _ _ _ _ _ _ _ hW' 
      have T1_2 : ∀ (s6 s11 s12 s13 s14 s15 s16 s17 s18 s19 s20 s21 s22 s23 s24 s25 s26 s27 s28 s29 s30 s31 s32 s33 s34 s35 s36 s37 s38 s39 s40 s41 s42 s43 s44 s45 s46 s47 s48 s49 : Value) (X : World), TlK w a b i m c d p q L Q t X → wpAny Try.prog .any ops QQ 53 (fsL 55 1 [2]) { tmps := #[ptV (.slice a i c) p, ptV (.slice b m d) q, tmV t, .pointer (some ⟨w.heap.size, 0, none⟩), .pointer (some ⟨w.heap.size + 1, 0, none⟩), .pointer (some ⟨w.heap.size + 1 + 1, 0, none⟩), s6, .int .i64 A, .int .i64 B, .int .i64 A, .int .i64 B, s11, s12, s13, s14, s15, s16, s17, s18, s19, s20, s21, s22, s23, s24, s25, s26, s27, s28, s29, s30, s31, s32, s33, s34, s35, s36, s37, s38, s39, s40, s41, s42, s43, s44, s45, s46, s47, s48, s49, .agg #[.slice a i c, .int .i64 p], undef, .agg #[.slice a i c, .int .i64 p], undef, undef, undef, undef, undef, undef, undef, undef, undef, undef, undef, undef, undef, undef, undef, undef, undef, undef, undef, undef, undef, undef, undef, undef, undef, undef, undef, undef, undef, undef, undef, undef, undef, undef, undef, undef, undef, undef, undef, undef, undef, undef, undef, undef, undef, undef, undef, undef, undef, undef, undef], defers := [] } X := by
        as_aux_lemma =>
        intro s6 s11 s12 s13 s14 s15 s16 s17 s18 s19 s20 s21 s22 s23 s24 s25 s26 s27 s28 s29 s30 s31 s32 s33 s34 s35 s36 s37 s38 s39 s40 s41 s42 s43 s44 s45 s46 s47 s48 s49 X hW'
        obtain ⟨z0, z1, z2, z3, z4, z5, z6, z7⟩ := hW'.cells
        refine any_seg (fu := 52) (l2 := fsL 55 3 []) [1] (by rfl) (by rw [← hops]; kernel_rfl) ?_
        obtain ⟨lz, hlz⟩ : ∃ l, atL ops [1] = l := ⟨_, rfl⟩
        rw [hlz]
        rw [← hops] at hlz
        simp only [atL, List.filterMap_cons, List.filterMap_nil, List.getElem?_toArray, List.getElem?_cons_succ, List.getElem?_cons_zero] at hlz
        subst hlz
        refine wpSeg_want (by rfl) (fun K' hK => ?_)
        go_simp
        refine (D1.out _ hW').mono ?_
        rintro e Xa ⟨rfl, hW', hb⟩
        dsimp only
        refine hK _ _ ?_
        clear hK K'
        (try simp only [Act.put, List.setIfInBounds_toArray, List.set_cons_zero, List.set_cons_succ])
        clear z0 z1 z2 z3 z4 z5 z6 z7
        obtain ⟨z0, z1, z2, z3, z4, z5, z6, z7⟩ := hW'.cells
        show wpAny _ _ _ _ _ _ _ _
        exact T3 _ _ _ _ _ _ _ _ _ _ _ _ _ _ _ _ _ _ _ _ _ _ _ _ _ _ _ _ _ _ _ _ _ _ _ _ _ _ _ _ _ _ hW' 
      have T2 : ∀ (s6 s11 s12 s13 s14 s15 s16 s17 s18 s19 s20 s21 s22 s23 s24 s25 s26 s27 s28 s29 s30 s31 s32 s33 s34 s35 s36 s37 s38 s39 s40 s41 s42 s43 s44 s45 s46 s47 s48 s49 s50 : Value) (X : World), TlK w a b i m c d p q L Q t X → wpAny Try.prog .any ops QQ 53 (fsL 55 2 []) { tmps := #[ptV (.slice a i c) p, ptV (.slice b m d) q, tmV t, .pointer (some ⟨w.heap.size, 0, none⟩), .pointer (some ⟨w.heap.size + 1, 0, none⟩), .pointer (some ⟨w.heap.size + 1 + 1, 0, none⟩), s6, .int .i64 A, .int .i64 B, .int .i64 A, .int .i64 B, s11, s12, s13, s14, s15, s16, s17, s18, s19, s20, s21, s22, s23, s24, s25, s26, s27, s28, s29, s30, s31, s32, s33, s34, s35, s36, s37, s38, s39, s40, s41, s42, s43, s44, s45, s46, s47, s48, s49, s50, .bool R1, undef, undef, undef, undef, undef, undef, undef, undef, undef, undef, undef, undef, undef, undef, undef, undef, undef, undef, undef, undef, undef, undef, undef, undef, undef, undef, undef, undef, undef, undef, undef, undef, undef, undef, undef, undef, undef, undef, undef, undef, undef, undef, undef, undef, undef, undef, undef, undef, undef, undef, undef, undef], defers := [] } X := by
        as_aux_lemma =>
        intro s6 s11 s12 s13 s14 s15 s16 s17 s18 s19 s20 s21 s22 s23 s24 s25 s26 s27 s28 s29 s30 s31 s32 s33 s34 s35 s36 s37 s38 s39 s40 s41 s42 s43 s44 s45 s46 s47 s48 s49 s50 X hW'
        obtain ⟨z0, z1, z2, z3, z4, z5, z6, z7⟩ := hW'.cells
        refine any_seg (fu := 52) (l2 := fsL 55 3 []) [2] (by rfl) (by rw [← hops]; kernel_rfl) ?_
        obtain ⟨lz, hlz⟩ : ∃ l, atL ops [2] = l := ⟨_, rfl⟩
        rw [hlz]
        rw [← hops] at hlz
        simp only [atL, List.filterMap_cons, List.filterMap_nil, List.getElem?_toArray, List.getElem?_cons_succ, List.getElem?_cons_zero] at hlz
        subst hlz
        refine wpSeg_want (by rfl) (fun K' hK => ?_)
        go_simp
        refine hK _ _ ?_
        clear hK K'
        (try simp only [Act.put, List.setIfInBounds_toArray, List.set_cons_zero, List.set_cons_succ])
        show wpAny _ _ _ _ _ _ _ _
        exact T3 _ _ _ _ _ _ _ _ _ _ _ _ _ _ _ _ _ _ _ _ _ _ _ _ _ _ _ _ _ _ _ _ _ _ _ _ _ _ _ _ _ _ hW' 
      have T0_2 : ∀ (s6 s11 s12 s13 s14 s15 s16 s17 s18 s19 s20 s21 s22 s23 s24 s25 s26 s27 s28 s29 s30 s31 s32 s33 s34 s35 s36 s37 s38 s39 s40 s41 s42 s43 s44 s45 s46 s47 s48 s49 : Value) (X : World), TlK w a b i m c d p q L Q t X → wpAny Try.prog .any ops QQ 54 (fsL 55 0 [2]) { tmps := #[ptV (.slice a i c) p, ptV (.slice b m d) q, tmV t, .pointer (some ⟨w.heap.size, 0, none⟩), .pointer (some ⟨w.heap.size + 1, 0, none⟩), .pointer (some ⟨w.heap.size + 1 + 1, 0, none⟩), s6, .int .i64 A, .int .i64 B, .int .i64 A, .int .i64 B, s11, s12, s13, s14, s15, s16, s17, s18, s19, s20, s21, s22, s23, s24, s25, s26, s27, s28, s29, s30, s31, s32, s33, s34, s35, s36, s37, s38, s39, s40, s41, s42, s43, s44, s45, s46, s47, s48, s49, undef, undef, .agg #[.slice a i c, .int .i64 p], undef, undef, undef, undef, undef, undef, undef, undef, undef, undef, undef, undef, undef, undef, undef, undef, undef, undef, undef, undef, undef, undef, undef, undef, undef, undef, undef, undef, undef, undef, undef, undef, undef, undef, undef, undef, undef, undef, undef, undef, undef, undef, undef, undef, undef, undef, undef, undef, undef, undef, undef], defers := [] } X := by
        as_aux_lemma =>
        intro s6 s11 s12 s13 s14 s15 s16 s17 s18 s19 s20 s21 s22 s23 s24 s25 s26 s27 s28 s29 s30 s31 s32 s33 s34 s35 s36 s37 s38 s39 s40 s41 s42 s43 s44 s45 s46 s47 s48 s49 X hW'
        obtain ⟨z0, z1, z2, z3, z4, z5, z6, z7⟩ := hW'.cells
        refine any_seg (fu := 53) (l2 := fsL 55 1 [2]) [0] (by rfl) (by rw [← hops]; kernel_rfl) ?_
        obtain ⟨lz, hlz⟩ : ∃ l, atL ops [0] = l := ⟨_, rfl⟩
        rw [hlz]
        rw [← hops] at hlz
        simp only [atL, List.filterMap_cons, List.filterMap_nil, List.getElem?_toArray, List.getElem?_cons_succ, List.getElem?_cons_zero] at hlz
        subst hlz
        refine wpSeg_want (by rfl) (fun K' hK => ?_)
        go_simp
        refine hK _ _ ?_
        clear hK K'
        (try simp only [Act.put, List.setIfInBounds_toArray, List.set_cons_zero, List.set_cons_succ])
        show wpAny _ _ _ _ _ _ _ _
        exact T1_2 _ _ _ _ _ _ _ _ _ _ _ _ _ _ _ _ _ _ _ _ _ _ _ _ _ _ _ _ _ _ _ _ _ _ _ _ _ _ _ _ _ hW' 
      have T1 : ∀ (s6 s11 s12 s13 s14 s15 s16 s17 s18 s19 s20 s21 s22 s23 s24 s25 s26 s27 s28 s29 s30 s31 s32 s33 s34 s35 s36 s37 s38 s39 s40 s41 s42 s43 s44 s45 s46 s47 s48 s49 : Value) (X : World), TlK w a b i m c d p q L Q t X → wpAny Try.prog .any ops QQ 54 (fsL 55 1 []) { tmps := #[ptV (.slice a i c) p, ptV (.slice b m d) q, tmV t, .pointer (some ⟨w.heap.size, 0, none⟩), .pointer (some ⟨w.heap.size + 1, 0, none⟩), .pointer (some ⟨w.heap.size + 1 + 1, 0, none⟩), s6, .int .i64 A, .int .i64 B, .int .i64 A, .int .i64 B, s11, s12, s13, s14, s15, s16, s17, s18, s19, s20, s21, s22, s23, s24, s25, s26, s27, s28, s29, s30, s31, s32, s33, s34, s35, s36, s37, s38, s39, s40, s41, s42, s43, s44, s45, s46, s47, s48, s49, .agg #[.slice a i c, .int .i64 p], undef, undef, undef, undef, undef, undef, undef, undef, undef, undef, undef, undef, undef, undef, undef, undef, undef, undef, undef, undef, undef, undef, undef, undef, undef, undef, undef, undef, undef, undef, undef, undef, undef, undef, undef, undef, undef, undef, undef, undef, undef, undef, undef, undef, undef, undef, undef, undef, undef, undef, undef, undef, undef], defers := [] } X := by
        as_aux_lemma =>
        intro s6 s11 s12 s13 s14 s15 s16 s17 s18 s19 s20 s21 s22 s23 s24 s25 s26 s27 s28 s29 s30 s31 s32 s33 s34 s35 s36 s37 s38 s39 s40 s41 s42 s43 s44 s45 s46 s47 s48 s49 X hW'
        obtain ⟨z0, z1, z2, z3, z4, z5, z6, z7⟩ := hW'.cells
        refine any_fork (f1 := 53) [1, 2] (by rw [← hops]; kernel_rfl) (by simp) (by rw [← hops]; kernel_rfl) (by rfl) ?_
        intro ix hix
        simp only [List.mem_cons, List.not_mem_nil, or_false] at hix
        rcases hix with rfl | rfl
        · obtain ⟨lz, hlz⟩ : ∃ l, atL ops [1] = l := ⟨_, rfl⟩
          rw [hlz]
          rw [← hops] at hlz
          simp only [atL, List.filterMap_cons, List.filterMap_nil, List.getElem?_toArray, List.getElem?_cons_succ, List.getElem?_cons_zero] at hlz
          subst hlz
          refine wpSeg_want (by rfl) (fun K' hK => ?_)
          go_simp
          refine (D1.out _ hW').mono ?_
          rintro e Xa ⟨rfl, hW', hb⟩
          dsimp only
          refine hK _ _ ?_
          clear hK K'
          (try simp only [Act.put, List.setIfInBounds_toArray, List.set_cons_zero, List.set_cons_succ])
          clear z0 z1 z2 z3 z4 z5 z6 z7
          obtain ⟨z0, z1, z2, z3, z4, z5, z6, z7⟩ := hW'.cells
          show wpAny _ _ _ _ _ _ _ _
          rw [show (fsL 55 1 []).setIfInBounds 1 true = fsL 55 2 [] from by kernel_rfl]
          exact T2 _ _ _ _ _ _ _ _ _ _ _ _ _ _ _ _ _ _ _ _ _ _ _ _ _ _ _ _ _ _ _ _ _ _ _ _ _ _ _ _ _ _ hW' 
        · obtain ⟨lz, hlz⟩ : ∃ l, atL ops [2] = l := ⟨_, rfl⟩
          rw [hlz]
          rw [← hops] at hlz
          simp only [atL, List.filterMap_cons, List.filterMap_nil, List.getElem?_toArray, List.getElem?_cons_succ, List.getElem?_cons_zero] at hlz
          subst hlz
          refine wpSeg_want (by rfl) (fun K' hK => ?_)
          go_simp
          refine hK _ _ ?_
          clear hK K'
          (try simp only [Act.put, List.setIfInBounds_toArray, List.set_cons_zero, List.set_cons_succ])
          show wpAny _ _ _ _ _ _ _ _
          rw [show (fsL 55 1 []).setIfInBounds 2 true = fsL 55 1 [2] from by kernel_rfl]
          exact T1_2 _ _ _ _ _ _ _ _ _ _ _ _ _ _ _ _ _ _ _ _ _ _ _ _ _ _ _ _ _ _ _ _ _ _ _ _ _ _ _ _ _ hW' 
      have T0 : ∀ (s6 s11 s12 s13 s14 s15 s16 s17 s18 s19 s20 s21 s22 s23 s24 s25 s26 s27 s28 s29 s30 s31 s32 s33 s34 s35 s36 s37 s38 s39 s40 s41 s42 s43 s44 s45 s46 s47 s48 s49 : Value) (X : World), TlK w a b i m c d p q L Q t X → wpAny Try.prog .any ops QQ 55 (fsL 55 0 []) { tmps := #[ptV (.slice a i c) p, ptV (.slice b m d) q, tmV t, .pointer (some ⟨w.heap.size, 0, none⟩), .pointer (some ⟨w.heap.size + 1, 0, none⟩), .pointer (some ⟨w.heap.size + 1 + 1, 0, none⟩), s6, .int .i64 A, .int .i64 B, .int .i64 A, .int .i64 B, s11, s12, s13, s14, s15, s16, s17, s18, s19, s20, s21, s22, s23, s24, s25, s26, s27, s28, s29, s30, s31, s32, s33, s34, s35, s36, s37, s38, s39, s40, s41, s42, s43, s44, s45, s46, s47, s48, s49, undef, undef, undef, undef, undef, undef, undef, undef, undef, undef, undef, undef, undef, undef, undef, undef, undef, undef, undef, undef, undef, undef, undef, undef, undef, undef, undef, undef, undef, undef, undef, undef, undef, undef, undef, undef, undef, undef, undef, undef, undef, undef, undef, undef, undef, undef, undef, undef, undef, undef, undef, undef, undef, undef], defers := [] } X := by
        as_aux_lemma =>
        intro s6 s11 s12 s13 s14 s15 s16 s17 s18 s19 s20 s21 s22 s23 s24 s25 s26 s27 s28 s29 s30 s31 s32 s33 s34 s35 s36 s37 s38 s39 s40 s41 s42 s43 s44 s45 s46 s47 s48 s49 X hW'
        obtain ⟨z0, z1, z2, z3, z4, z5, z6, z7⟩ := hW'.cells
        refine any_fork (f1 := 54) [0, 2] (by rw [← hops]; kernel_rfl) (by simp) (by rw [← hops]; kernel_rfl) (by rfl) ?_
        intro ix hix
        simp only [List.mem_cons, List.not_mem_nil, or_false] at hix
        rcases hix with rfl | rfl
        · obtain ⟨lz, hlz⟩ : ∃ l, atL ops [0] = l := ⟨_, rfl⟩
          rw [hlz]
          rw [← hops] at hlz
          simp only [atL, List.filterMap_cons, List.filterMap_nil, List.getElem?_toArray, List.getElem?_cons_succ, List.getElem?_cons_zero] at hlz
          subst hlz
          refine wpSeg_want (by rfl) (fun K' hK => ?_)
          go_simp
          refine hK _ _ ?_
          clear hK K'
          (try simp only [Act.put, List.setIfInBounds_toArray, List.set_cons_zero, List.set_cons_succ])
          show wpAny _ _ _ _ _ _ _ _
          rw [show (fsL 55 0 []).setIfInBounds 0 true = fsL 55 1 [] from by kernel_rfl]
          exact T1 _ _ _ _ _ _ _ _ _ _ _ _ _ _ _ _ _ _ _ _ _ _ _ _ _ _ _ _ _ _ _ _ _ _ _ _ _ _ _ _ _ hW' 
        · obtain ⟨lz, hlz⟩ : ∃ l, atL ops [2] = l := ⟨_, rfl⟩
          rw [hlz]
          rw [← hops] at hlz
          simp only [atL, List.filterMap_cons, List.filterMap_nil, List.getElem?_toArray, List.getElem?_cons_succ, List.getElem?_cons_zero] at hlz
          subst hlz
          refine wpSeg_want (by rfl) (fun K' hK => ?_)
          go_simp
          refine hK _ _ ?_
          clear hK K'
          (try simp only [Act.put, List.setIfInBounds_toArray, List.set_cons_zero, List.set_cons_succ])
          show wpAny _ _ _ _ _ _ _ _
          rw [show (fsL 55 0 []).setIfInBounds 2 true = fsL 55 0 [2] from by kernel_rfl]
          exact T0_2 _ _ _ _ _ _ _ _ _ _ _ _ _ _ _ _ _ _ _ _ _ _ _ _ _ _ _ _ _ _ _ _ _ _ _ _ _ _ _ _ _ hW' 
      have hsz : ops.size = 55 := by rw [← hops]; rfl
      rw [hsz]
      have hW' := hK.out.later (Below.refl _ _).drew
      change wpAny _ _ _ _ _ _ _ wr.drew
      generalize wr.drew = W4 at *
      rw [show Array.replicate 55 false = fsL 55 0 [] from by rfl]
      exact T0 _ _ _ _ _ _ _ _ _ _ _ _ _ _ _ _ _ _ _ _ _ _ _ _ _ _ _ _ _ _ _ _ _ _ _ _ _ _ _ _ _ hW' 
end Go.Proofs.Ytkibnbcdmkogkaa
