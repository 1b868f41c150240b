/-
  TreeAsked's walk.
-/
import Derived.Test.YtkibnbcdmkogkaaAJ
import Derived.Deep.Cut
import Derived.Deep.CutRange
import Derived.Deep.LoopGhost
namespace Go.Proofs.Ytkibnbcdmkogkaa
open Go.ChangeShapes Go.WideShapes Go.ChangeAt Go.RowKit
set_option linter.unusedVariables false
set_option linter.unusedSimpArgs false
attribute [local go_sem] Oper.semAt_some
abbrev WakesOkA : Prop := ∀ W : World, Calls Try.prog 9 #[] W fun e W' => e = .returned (.bool true) ∧ Below W.heap.size W W'
theorem mem_take_succ {l : List Int} {i : Nat} {y x : Int} (h : l[i]? = some y) : decide (x ∈ l.take (i + 1)) = (decide (x ∈ l.take i) || (y == x)) := by
  rw [List.take_add_one, h]
  by_cases h1 : x ∈ l.take i
  · simp [h1]
  · by_cases h2 : y = x
    · simp [h1, h2]
    · have : ¬ x = y := fun e => h2 e.symm
      simp [h1, h2, this]
/-- What the law reads: the step's box, and the names asked of it. -/
def AkIn (w : World) (s : Sp) (a : Option Addr) (m c : Nat) (al : Option Addr) (k cl : Nat) (LS : List Int) (W : World) : Prop :=
  SpIn w.heap.size s a m c W ∧ IntsAt W (.slice al k cl) LS ∧ Below w.heap.size w W
theorem AkIn.later {w : World} {s : Sp} {a : Option Addr} {m c : Nat} {al : Option Addr} {k cl : Nat} {LS : List Int} {W W' : World} (h : AkIn w s a m c al k cl LS W) (hb : Below W.heap.size W W') : AkIn w s a m c al k cl LS W' :=
  ⟨h.1.later hb, h.2.1.later hb, kept_trans h.2.2 hb⟩
/-- Two terms in an array. -/
def TwBox (p : Nat) (t u : Tm) (w : World) : Prop := w.heap[p]? = some (.cells #[.int .u8 t.k, .int .i64 t.n, .int .i64 t.s, .int .i64 t.r, .int .u8 u.k, .int .i64 u.n, .int .i64 u.s, .int .i64 u.r] 47 (0, 0))
theorem TwBox.new (w : World) (t u : Tm) : TwBox w.heap.size t u (w.alloc (.cells #[.int .u8 t.k, .int .i64 t.n, .int .i64 t.s, .int .i64 t.r, .int .u8 u.k, .int .i64 u.n, .int .i64 u.s, .int .i64 u.r] 47)) := World.alloc_heap_new w _
theorem TwBox.later {p : Nat} {t u : Tm} {w w' : World} (h : TwBox p t u w) (hb : Below w.heap.size w w') : TwBox p t u w' := (hb.block _ (Array.getElem?_eq_some_iff.1 h).1).trans h
theorem TwBox.at {p : Nat} {t u : Tm} {w : World} (h : TwBox p t u w) {j : Nat} (hj : j < 2) : ∃ tt, [t, u][j]? = some tt ∧
    w.cell? ⟨p, j * 4, none⟩ = some (.int .u8 tt.k) ∧ w.cell? ⟨p, j * 4 + 1, none⟩ = some (.int .i64 tt.n) ∧ w.cell? ⟨p, j * 4 + 2, none⟩ = some (.int .i64 tt.s) ∧ w.cell? ⟨p, j * 4 + 3, none⟩ = some (.int .i64 tt.r) := by
  unfold TwBox at h
  match j, hj with
  | 0, _ => exact ⟨t, rfl, by simp [World.cell?, h], by simp [World.cell?, h], by simp [World.cell?, h], by simp [World.cell?, h]⟩
  | 1, _ => exact ⟨u, rfl, by simp [World.cell?, h], by simp [World.cell?, h], by simp [World.cell?, h], by simp [World.cell?, h]⟩
theorem terms_j {cs : List Cp} {n j : Nat} {c : Cp} {t : Tm} (h : cs[n]? = some c) (hj : j < 2) (ht : [c.l, c.r][j]? = some t) : (termsC cs)[n * 2 + j]? = some t := by
  obtain ⟨h1, h2⟩ := termsC_at h
  match j, hj with
  | 0, _ => rw [← ht]; exact h1
  | 1, _ => rw [← ht]; exact h2
theorem names_next {cs : List Cp} {q : Nat} {t : Tm} (x : Int) (h : (termsC cs)[q]? = some t) : decide (x ∈ namesL ((termsC cs).take (q + 1))) = (decide (x ∈ namesL ((termsC cs).take q)) || decide (x ∈ namesT t)) := by
  rw [List.take_add_one, h]
  unfold namesL
  rw [List.flatMap_append]
  simp
theorem names_in {cs : List Cp} {q j : Nat} {t : Tm} {y : Int} (h : (termsC cs)[q]? = some t) (hy : (namesT t)[j]? = some y) : y ∈ namesC cs := by
  unfold namesC namesL
  exact List.mem_flatMap.2 ⟨t, List.mem_of_getElem? h, List.mem_of_getElem? hy⟩
set_option maxRecDepth 100000 in
set_option maxHeartbeats 2000000 in
theorem askedWalk (hwk : WakesOkA) (s : Sp) (a : Option Addr) (m c : Nat) (x : Int) (w : World) (hm : s.cs.length = m) (hmb : m ≤ 9223372036854775807) (hc : CpsAt w (.slice a m c) s.cs) :
    Calls Try.prog 5 #[spV s (.slice a m c), .int .i64 x] w fun e w' => e = .returned (.bool true) ∧ Below w.heap.size w w' := by
  have hb := kept_new w (.cells #[.bool s.neg, .int .i64 s.kind, .int .i64 s.min, .int .i64 s.max, .bool s.strict, .slice a m c] 36)
  have hs : SpIn w.heap.size s a m c _ := ⟨SpBox.new w s (.slice a m c), hm, hc.later hb⟩
  obtain ⟨s0, s1, s2, s3, s4, s5⟩ := hs.1.cells
  go_enter Try.func5, Try.ntmps5
  by_cases h20 : 20 < m
  · have h20i : (20 : Int) < m := by omega
    go_wp2_with ((with_reducible refine (hwk _).mono ?_); rintro e w2 ⟨rfl, hb2⟩)
    go_ret
    exact ⟨rfl, kept_trans hb hb2⟩
  have h20i : ¬ (20 : Int) < m := by omega
  obtain ⟨LS, hLS⟩ : ∃ LS, setOf (namesC s.cs) = LS := ⟨_, rfl⟩
  obtain ⟨k, hk⟩ : ∃ k, LS.length = k := ⟨_, rfl⟩
  have hA := Lib.hid (asked_any s a m c _ (by omega) hm hs.2.2)
  have hsc := Lib.hid hs
  replace hm := Lib.hid hm
  go_wp2_with ((with_reducible refine hA.out.mono ?_); rintro e w2 ⟨v, rfl, hr, hb2⟩; rw [hLS, hk] at hr; obtain ⟨al, cl, rfl, hcl⟩ := cells_of_row hr)
  have hI : Hid (AkIn w s a m c al k cl LS w2) := ⟨hsc.out.later hb2, ⟨al, cl, by rw [hk], hcl⟩, kept_trans hb hb2⟩
  have hkk : k ≤ 400 := by
    have h1 := namesC_len s.cs
    have h2 : (setOf (namesC s.cs)).length ≤ (namesC s.cs).length := by
      unfold setOf
      exact Nat.le_trans (Lib.compact_length_le _) (Nat.le_of_eq (List.length_mergeSort _))
    rw [hLS, hk] at h2
    have := hm.out
    omega
  have hris := Lib.hid (setOf_rising (namesC s.cs))
  have hmem := Lib.hid (setOf_mem (namesC s.cs))
  rw [hLS] at hris hmem
  replace hk := Lib.hid hk
  clear hr hcl hA hLS hb hb2 s0 s1 s2 s3 s4 s5 hsc hs hc
  go_loopw [6, 7] (fun u t wr => ∃ i : Nat, i ≤ k ∧ t = .int .i64 i ∧ u = .bool (decide (x ∈ LS.take i)) ∧ Hid (Below w2.heap.size w2 wr)) (fun _ t _ => k - (intOf t).toNat)
  case atStart => exact ⟨0, Nat.zero_le _, rfl, by simp, Below.refl _ _⟩
  case round =>
    obtain ⟨i, hi, rfl, rfl, hwr⟩ := hrel
    have hIr := Lib.hid (hI.out.later hwr.out)
    by_cases hlt : i < k
    · have hlti : (i : Int) < k := by omega
      obtain ⟨y, hy⟩ : ∃ y, LS[i]? = some y := ⟨_, List.getElem?_eq_getElem (by rw [hk.out]; exact hlt)⟩
      obtain ⟨b1, o1, rfl, z0⟩ := hIr.out.2.1.at hk.out hy
      have hnx := Lib.hid (mem_take_succ (x := x) hy)
      obtain ⟨u, hu⟩ : ∃ u, decide (x ∈ LS.take i) = u := ⟨_, rfl⟩
      rw [hu] at hnx ⊢
      clear hu
      have hgo : ∀ b3 o3 q, some ⟨b3, o3, none⟩ = some (⟨b1, o1, none⟩ : Addr) → q = i → True := fun _ _ _ _ _ => trivial
      obtain ⟨y1, hy1⟩ : ∃ y1 : Int, (0 < i → y1 < y ∧ wr.cell? ⟨b1, o1 + (i - 1), none⟩ = some (.int .i64 y1)) := by
        by_cases h0 : 0 < i
        · obtain ⟨y1, hy1⟩ : ∃ y, LS[i - 1]? = some y := ⟨_, List.getElem?_eq_getElem (by rw [hk.out]; omega)⟩
          obtain ⟨b2, o2, e, z1⟩ := hIr.out.2.1.at hk.out hy1
          cases e
          refine ⟨y1, fun _ => ⟨?_, z1⟩⟩
          have hp := List.pairwise_iff_getElem.1 hris.out (i - 1) i (by rw [hk.out]; omega) (by rw [hk.out]; omega) (by omega)
          obtain ⟨_, e1⟩ := List.getElem?_eq_some_iff.1 hy1
          obtain ⟨_, e2⟩ := List.getElem?_eq_some_iff.1 hy
          rw [e1, e2] at hp
          exact hp
        · exact ⟨0, fun h => absurd h h0⟩
      by_cases h0 : 0 < i
      · obtain ⟨hlt1, z1⟩ := hy1 h0
        have h0i : decide ((0 : Int) < i) = true := decide_eq_true (by omega)
        have h1i : ¬ y ≤ y1 := by omega
        obtain ⟨j, rfl⟩ : ∃ j, i = j + 1 := ⟨i - 1, by omega⟩
        have z1' : wr.cell? ⟨b1, o1 + j, none⟩ = some (.int .i64 y1) := z1
        clear hy hgo h0 hlt1 z1
        have hfin : Hid (∀ q, Below w2.heap.size w2 (wr.drewN q)) := fun q => kept_trans hwr.out (drewN_kept _ _)
        go_wp2_with fail
        go_quiet (fail)
        have z0' : (wr.drewN nq).cell? ⟨b1, o1 + (j + 1), none⟩ = some (.int .i64 y) := z0
        cases u
        · go_wp2_with fail
          exact ⟨⟨j + 1 + 1, by omega, by go_num, by rw [hnx.out]; rfl, hfin.out _⟩, by simp [intOf]; omega⟩
        · go_wp2_with fail
          exact ⟨⟨j + 1 + 1, by omega, by go_num, by rw [hnx.out]; rfl, hfin.out _⟩, by simp [intOf]; omega⟩
      · obtain rfl : i = 0 := by omega
        have h0i : decide ((0 : Int) < 0) = false := by decide
        have hfin : Hid (∀ q, Below w2.heap.size w2 (wr.drewN q)) := fun q => kept_trans hwr.out (drewN_kept _ _)
        clear hy hgo h0
        go_wp2_with fail
        go_quiet (fail)
        have z0' : (wr.drewN nq).cell? ⟨b1, o1, none⟩ = some (.int .i64 y) := z0
        cases u
        · go_wp2_with fail
          exact ⟨⟨1, by omega, by go_num, by rw [hnx.out]; rfl, hfin.out _⟩, by simp [intOf]; omega⟩
        · go_wp2_with fail
          exact ⟨⟨1, by omega, by go_num, by rw [hnx.out]; rfl, hfin.out _⟩, by simp [intOf]; omega⟩
    · obtain rfl : i = k := by omega
      have hlti : ¬ (i : Int) < i := by omega
      have hin : decide (x ∈ LS.take i) = decide (x ∈ namesC s.cs) := by
        rw [List.take_of_length_le (by rw [hk.out]; exact Nat.le_refl _)]
        exact decide_eq_decide.2 (hmem.out x)
      rw [hin]
      obtain ⟨IN, hIN⟩ : ∃ b, decide (x ∈ namesC s.cs) = b := ⟨_, rfl⟩
      rw [hIN]
      replace hIN := Lib.hid hIN
      clear hin
      go_wp2_with fail
      go_loopw [8, 9] (fun u t wt => ∃ i : Nat, i ≤ m ∧ t = .int .i64 i ∧ u = .bool (decide (x ∈ namesL ((termsC s.cs).take (i * 2)))) ∧ Hid (Below w2.heap.size w2 wt)) (fun _ t _ => m - (intOf t).toNat)
      case atStart => exact ⟨0, Nat.zero_le _, rfl, by simp [namesL], hwr.out⟩
      case round =>
        obtain ⟨n, hn, rfl, rfl, hwt⟩ := hrel
        have hIt := Lib.hid (hI.out.later hwt.out)
        obtain ⟨-, -, -, -, -, s5⟩ := hIt.out.1.1.cells
        by_cases hlt : n < m
        · have hltn : (n : Int) < m := by omega
          obtain ⟨cp, hcp⟩ : ∃ cp, s.cs[n]? = some cp := ⟨_, List.getElem?_eq_getElem (by rw [hm.out]; exact hlt)⟩
          obtain ⟨b2, o2, rfl, y0, y1, y2, y3, y4, y5, y6, y7, y8⟩ := hIt.out.1.cmp hcp
          clear y0
          have K9 := fun {a : Addr} {v : Value} (h : wr.cell? a = some v) => bcell (kept_new wr (.cells #[.int .u8 0, .int .i64 0, .int .i64 0, .int .i64 0, .int .u8 0, .int .i64 0, .int .i64 0, .int .i64 0] 47)) (World.block_lt_of_cell? wr _ h) h
          have x1 := K9 y1
          have x2 := K9 y2
          have x3 := K9 y3
          have x4 := K9 y4
          have x5 := K9 y5
          have x6 := K9 y6
          have x7 := K9 y7
          have x8 := K9 y8
          have x9 := K9 s5
          clear K9
          go_wp2_with fail
          go_region
          go_wp2_with fail
          clear y1 y2 y3 y4 y5 y6 y7 y8 x1 x2 x3 x4 x5 x6 x7 x8 x9 s5
          have hb3 := (kept_new wr (.cells #[.int .u8 cp.l.k, .int .i64 cp.l.n, .int .i64 cp.l.s, .int .i64 cp.l.r, .int .u8 cp.r.k, .int .i64 cp.r.n, .int .i64 cp.r.s, .int .i64 cp.r.r] 47)).drew
          have hB3 : TwBox wr.heap.size cp.l cp.r (wr.alloc (.cells #[.int .u8 cp.l.k, .int .i64 cp.l.n, .int .i64 cp.l.s, .int .i64 cp.l.r, .int .u8 cp.r.k, .int .i64 cp.r.n, .int .i64 cp.r.s, .int .i64 cp.r.r] 47)).drew := TwBox.new wr cp.l cp.r
          have hIB := Lib.hid (hIt.out.later hb3)
          have hw3 := Lib.hid (kept_trans hwt.out hb3)
          replace hB3 := Lib.hid hB3
          replace hcp := Lib.hid hcp
          clear hb3 hIt hwt
          generalize (wr.alloc (.cells #[.int .u8 cp.l.k, .int .i64 cp.l.n, .int .i64 cp.l.s, .int .i64 cp.l.r, .int .u8 cp.r.k, .int .i64 cp.r.n, .int .i64 cp.r.s, .int .i64 cp.r.r] 47)).drew = W3 at *
          generalize wr.heap.size = p at *
          go_loopw [8, 11] (fun u t wt => ∃ j : Nat, j ≤ 2 ∧ t = .int .i64 j ∧ u = .bool (decide (x ∈ namesL ((termsC s.cs).take (n * 2 + j)))) ∧ Hid (Below W3.heap.size W3 wt)) (fun _ t _ => 2 - (intOf t).toNat)
          case atStart => exact ⟨0, Nat.zero_le _, rfl, rfl, Below.refl _ _⟩
          case round =>
            obtain ⟨j, hj, rfl, rfl, hwj⟩ := hrel
            by_cases hltj : j < 2
            · have hltji : (j : Int) < 2 := by omega
              obtain ⟨tt, htt, e0, e1, e2, e3⟩ := (hB3.out.later hwj.out).at hltj
              have htj := Lib.hid (terms_j hcp.out hltj htt)
              have hnn := Lib.hid (names_next x htj.out)
              obtain ⟨bb, hbb⟩ : ∃ b, decide (x ∈ namesL ((termsC s.cs).take (n * 2 + j))) = b := ⟨_, rfl⟩
              rw [hbb] at hnn ⊢
              clear hbb htt
              obtain ⟨nt, hnt⟩ : ∃ b, decide (x ∈ namesT tt) = b := ⟨_, rfl⟩
              rw [hnt] at hnn
              replace hnt := Lib.hid hnt
              go_upto_region 19 with fail
              go_cut [8] from 72 to 143 (fun t wx => t = .bool (bb || nt) ∧ wx = wr)
              case first =>
                clear hnn
                have hv : Hid (nt = (if tt.k = 0 then false else if tt.s = x then true else if tt.k = 5 ∨ tt.k = 6 then decide (tt.r = x) else false)) := by
                  show _ = _
                  rw [← hnt.out]
                  unfold namesT
                  have sx : decide (x = tt.s) = decide (tt.s = x) := decide_eq_decide.2 ⟨Eq.symm, Eq.symm⟩
                  have rx : decide (x = tt.r) = decide (tt.r = x) := decide_eq_decide.2 ⟨Eq.symm, Eq.symm⟩
                  by_cases h0 : tt.k = 0
                  · simp [h0]
                  · by_cases hs : tt.s = x <;> by_cases h5 : tt.k = 5 ∨ tt.k = 6 <;> simp [h0, hs, h5, sx, rx]
                    all_goals (intro e; exact hs e.symm)
                clear hnt
                cases bb
                · by_cases hk0 : tt.k = 0
                  · have c0 : (tt.k != 0) = false := by simp [hk0]
                    have c5 : (tt.k == 5) = false := by simp [hk0]
                    have c6 : (tt.k == 6) = false := by simp [hk0]
                    obtain rfl : nt = false := by rw [hv.out, if_pos hk0]
                    clear hk0 hv
                    go_wp2_with fail
                    go_meet
                    exact ⟨rfl, rfl⟩
                  · have c0 : (tt.k != 0) = true := by simp [hk0]
                    by_cases hs : tt.s = x
                    · have cs : (tt.s == x) = true := by simp [hs]
                      obtain rfl : nt = true := by rw [hv.out, if_neg hk0, if_pos hs]
                      clear hs hk0 hv
                      go_wp2_with fail
                      go_meet
                      exact ⟨rfl, rfl⟩
                    · have cs : (tt.s == x) = false := by simp [hs]
                      by_cases h5 : tt.k = 5
                      · have c5 : (tt.k == 5) = true := by simp [h5]
                        have hfin : Hid (nt = (tt.r == x)) := by show _ = _; rw [hv.out, if_neg hk0, if_neg hs, if_pos (.inl h5)]; rfl
                        clear hs h5 hk0 hv
                        go_wp2_with fail
                        go_meet
                        exact ⟨by rw [hfin.out]; rfl, rfl⟩
                      · have c5 : (tt.k == 5) = false := by simp [h5]
                        by_cases h6 : tt.k = 6
                        · have c6 : (tt.k == 6) = true := by simp [h6]
                          have hfin : Hid (nt = (tt.r == x)) := by show _ = _; rw [hv.out, if_neg hk0, if_neg hs, if_pos (.inr h6)]; rfl
                          clear hs h5 h6 hk0 hv
                          go_wp2_with fail
                          go_meet
                          exact ⟨by rw [hfin.out]; rfl, rfl⟩
                        · have c6 : (tt.k == 6) = false := by simp [h6]
                          obtain rfl : nt = false := by rw [hv.out, if_neg hk0, if_neg hs, if_neg (by simp [h5, h6])]
                          clear hs h5 h6 hk0 hv
                          go_wp2_with fail
                          go_meet
                          exact ⟨rfl, rfl⟩
                · clear hv
                  go_wp2_with fail
                  go_meet
                  exact ⟨rfl, rfl⟩
              case rest =>
                obtain ⟨rfl, rfl⟩ := hcut
                rw [← hnn.out]
                have hIj := Lib.hid (hIB.out.later hwj.out)
                clear hnt hnn
                go_wp2_with ((with_reducible refine (names_any _ _).mono ?_); rintro e w4 ⟨v, rfl, hr4, hb4⟩)
                obtain ⟨ln, hln⟩ : ∃ l, (namesT tt).length = l := ⟨_, rfl⟩
                have hln2 : ln ≤ 2 := by rw [← hln]; exact names_le tt
                have hN4 : IntsAt w4 v (namesT tt) := IntsAt.of_row hr4
                obtain ⟨an, cn, rfl⟩ := hN4.lit hln
                have hI4 := Lib.hid (hIj.out.later hb4)
                have hwj4 := Lib.hid (kept_trans hwj.out hb4)
                replace hN4 := Lib.hid hN4
                replace hln := Lib.hid hln
                clear hr4 hb4 e0 e1 e2 e3 hIj hwj
                go_wp2_with fail
                go_loopw [13] (fun t wt => ∃ q : Nat, q ≤ ln ∧ t = .int .i64 q ∧ Hid (Below w4.heap.size w4 wt)) (fun t _ => ln - (intOf t).toNat)
                case atStart => exact ⟨0, Nat.zero_le _, rfl, Below.refl _ _⟩
                case round =>
                  obtain ⟨q, hq, rfl, hwq⟩ := hrel
                  by_cases hltq : q < ln
                  · have hltqi : (q : Int) < ln := by omega
                    obtain ⟨y, hy⟩ : ∃ y, (namesT tt)[q]? = some y := ⟨_, List.getElem?_eq_getElem (by rw [hln.out]; exact hltq)⟩
                    have hyin := Lib.hid ((hmem.out y).2 (names_in htj.out hy))
                    have hyat := Lib.hid ((hN4.out.later hwq.out).at hln.out hy)
                    have hIq := Lib.hid (hI4.out.later hwq.out)
                    have hNq := Lib.hid (hN4.out.later hwq.out)
                    replace hy := Lib.hid hy
                    obtain ⟨wq, rfl⟩ : ∃ W, W = wr := ⟨_, rfl⟩
                    go_wp2_with fail
                    go_loopw [14, 15] (fun u t wt => ∃ r : Nat, r ≤ i ∧ t = .int .i64 r ∧ u = .bool (decide (y ∈ LS.take r)) ∧ Hid (Below wq.heap.size wq wt)) (fun _ t _ => i - (intOf t).toNat)
                    case atStart => exact ⟨0, Nat.zero_le _, rfl, by simp, Below.refl _ _⟩
                    case round =>
                      obtain ⟨r, hr, rfl, rfl, hwr5⟩ := hrel
                      by_cases hltr : r < i
                      · have hltri : (r : Int) < i := by omega
                        obtain ⟨z, hz⟩ : ∃ y, LS[r]? = some y := ⟨_, List.getElem?_eq_getElem (by rw [hk.out]; exact hltr)⟩
                        obtain ⟨b5, o5, rfl, z0⟩ := (hIq.out.later hwr5.out).2.1.at hk.out hz
                        obtain ⟨b6, o6, rfl, z6⟩ := (hNq.out.later hwr5.out).at hln.out hy.out
                        have hnx := Lib.hid (mem_take_succ (x := y) hz)
                        obtain ⟨u, hu⟩ : ∃ u, decide (y ∈ LS.take r) = u := ⟨_, rfl⟩
                        rw [hu] at hnx ⊢
                        have hfin : Hid (∀ q, Below wq.heap.size wq (wr.drewN q)) := fun q => kept_trans hwr5.out (drewN_kept _ _)
                        clear hu hz
                        cases u
                        · go_wp2_with fail
                          go_quiet (fail)
                          go_wp2_with fail
                          exact ⟨⟨r + 1, by omega, by go_num, by rw [hnx.out]; rfl, hfin.out _⟩, by simp [intOf]; omega⟩
                        · go_wp2_with fail
                          go_quiet (fail)
                          go_wp2_with fail
                          exact ⟨⟨r + 1, by omega, by go_num, by rw [hnx.out]; rfl, hfin.out _⟩, by simp [intOf]; omega⟩
                      · obtain rfl : r = i := by omega
                        have hltri : ¬ (r : Int) < r := by omega
                        have hty : decide (y ∈ LS.take r) = true := by rw [List.take_of_length_le (by rw [hk.out]; exact Nat.le_refl _)]; exact decide_eq_true hyin.out
                        rw [hty]
                        go_wp2_with fail
                        exact ⟨⟨q + 1, by omega, by go_num, kept_trans hwq.out hwr5.out⟩, by simp [intOf]; omega⟩
                  · obtain rfl : q = ln := by omega
                    have hltqi : ¬ (q : Int) < q := by omega
                    go_wp2_with fail
                    exact ⟨⟨j + 1, by omega, by go_num, rfl, kept_trans hwj4.out hwq.out⟩, by simp [intOf]; omega⟩
            · obtain rfl : j = 2 := by omega
              have hltji : ¬ (2 : Int) < 2 := by omega
              go_wp2_with fail
              refine ⟨⟨n + 1, by omega, by go_num, ?_, kept_trans hw3.out hwj.out⟩, by simp [intOf]; omega⟩
              rw [Nat.succ_mul]
        · obtain rfl : n = m := by omega
          have hltn : ¬ (n : Int) < n := by omega
          have hall : decide (x ∈ namesL ((termsC s.cs).take (n * 2))) = IN := by
            rw [← hIN.out, List.take_of_length_le (by rw [termsC_len, hm.out]; exact Nat.le_refl _)]
            rfl
          rw [hall]
          have hee : (IN == IN) = true := by simp
          go_wp2_with ((with_reducible refine (hwk _).mono ?_); rintro e w5 ⟨rfl, hb5⟩)
          go_ret
          exact ⟨rfl, kept_trans (hI.out.2.2) (kept_trans hwt.out hb5)⟩
end Go.Proofs.Ytkibnbcdmkogkaa
