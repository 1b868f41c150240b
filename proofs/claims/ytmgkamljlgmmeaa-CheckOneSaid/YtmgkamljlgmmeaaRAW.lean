/-
  Contract of the document's own Asked.
-/
import Derived.Test.YtmgkamljlgmmeaaRAU
import Derived.Test.YtmgkamljlgmmeaaRAV
import Derived.Test.YtmgkamljlgmmeaaRAO
import Derived.Deep.DeepCutAuto
import Derived.Deep.RegionHeld3
namespace Go.Proofs.Ytmgkamljlgmmeaa.Tree
open Go.ChangeShapes Go.WideShapes Go.ChangeAt Go.RowKit
set_option linter.unusedVariables false
set_option linter.unusedSimpArgs false
attribute [local go_sem] Oper.semAt_some
theorem withL_setOf (X : List Int) (y : Int) : withL (setOf X) y = setOf (X ++ [y]) :=
  (setOf_eq (withL_rising (setOf_rising X)) (fun x => by rw [withL_mem, setOf_mem]; simp)).symm
theorem setOf_len (X : List Int) : (setOf X).length ≤ X.length := by
  unfold setOf
  exact Nat.le_trans (Lib.compact_length_le _) (Nat.le_of_eq (List.length_mergeSort _))
theorem namesL_len (ts : List Tm) : (namesL ts).length ≤ ts.length * 2 := by
  induction ts with
  | nil => simp [namesL]
  | cons t r ih =>
    have := names_le t
    unfold namesL at ih ⊢
    rw [List.flatMap_cons, List.length_append, List.length_cons]
    omega
theorem names_two {cs : List Cp} {i : Nat} {c : Cp} (h : cs[i]? = some c) : namesL ((termsC cs).take ((i + 1) * 2)) = namesL ((termsC cs).take (i * 2)) ++ (namesT c.l ++ namesT c.r) := by
  obtain ⟨h1, h2⟩ := termsC_at h
  rw [Nat.succ_mul, show i * 2 + 2 = (i * 2 + 1) + 1 by omega, List.take_add_one, h2, List.take_add_one, h1]
  unfold namesL
  rw [List.flatMap_append, List.flatMap_append]
  simp
/-- What is read of the step's box. -/
def AsK (P : Nat) (s : Sp) (a : Option Addr) (n c : Nat) (W0 X : World) : Prop := SpIn P s a n c X ∧ Below W0.heap.size W0 X
theorem AsK.later {P : Nat} {s : Sp} {a : Option Addr} {n c : Nat} {W0 X Y : World} (h : AsK P s a n c W0 X) (hb : Below X.heap.size X Y) : AsK P s a n c W0 Y := ⟨h.1.later hb, kept_trans h.2 hb⟩
theorem AsK.all {P : Nat} {s : Sp} {b o n c i : Nat} {W0 X : World} {x : Cp} (h : AsK P s (some ⟨b, o, none⟩) n c W0 X) (hx : s.cs[i]? = some x) :
    (X.cell? ⟨P, 5, none⟩ = some (.slice (some ⟨b, o, none⟩) n c) ∧ X.cell? ⟨b, o + i * 9 + 1, none⟩ = some (.int .u8 x.l.k) ∧ X.cell? ⟨b, o + i * 9 + 2, none⟩ = some (.int .i64 x.l.n) ∧
      X.cell? ⟨b, o + i * 9 + 3, none⟩ = some (.int .i64 x.l.s) ∧ X.cell? ⟨b, o + i * 9 + 4, none⟩ = some (.int .i64 x.l.r) ∧ X.cell? ⟨b, o + i * 9 + 5, none⟩ = some (.int .u8 x.r.k) ∧
      X.cell? ⟨b, o + i * 9 + 6, none⟩ = some (.int .i64 x.r.n) ∧ X.cell? ⟨b, o + i * 9 + 7, none⟩ = some (.int .i64 x.r.s) ∧ X.cell? ⟨b, o + i * 9 + 8, none⟩ = some (.int .i64 x.r.r)) ∧ AsK P s (some ⟨b, o, none⟩) n c W0 X := by
  obtain ⟨b', o', e, y0, y1, y2, y3, y4, y5, y6, y7, y8⟩ := h.1.cmp hx
  cases e
  exact ⟨⟨h.1.1.cells.2.2.2.2.2, y1, y2, y3, y4, y5, y6, y7, y8⟩, h⟩
set_option maxRecDepth 100000 in
set_option maxHeartbeats 4000000 in
theorem refAsked_L (s : Sp) (a : Option Addr) (n c : Nat) (w : World) (hn20 : n ≤ 20) (hl : s.cs.length = n) (hc : CpsAt w (.slice a n c) s.cs) :
    Calls Try.prog 64 #[spV s (.slice a n c)] w fun e w' => ∃ v, e = .returned v ∧ IntsAt w' v (setOf (namesC s.cs)) ∧ Below w.heap.size w w' := by
  have hb := kept_new w (.cells #[.bool s.neg, .int .i64 s.kind, .int .i64 s.min, .int .i64 s.max, .bool s.strict, .slice a n c] 35)
  have hs : SpIn w.heap.size s a n c _ := ⟨SpBox.new w s (.slice a n c), hl, hc.later hb⟩
  go_enter Try.func64, Try.ntmps64
  go_wp2_with fail
  generalize (w.alloc (.cells #[.bool s.neg, .int .i64 s.kind, .int .i64 s.min, .int .i64 s.max, .bool s.strict, .slice a n c] 35)) = W0 at *
  obtain ⟨P, hP⟩ : ∃ P, w.heap.size = P := ⟨_, rfl⟩
  rw [hP] at hs ⊢
  rw [hP] at hb
  replace hb := Lib.hid hb
  replace hl := Lib.hid hl
  replace hs := Lib.hid hs
  replace hc := Lib.hid hc
  obtain ⟨i0, hi, hz0, hz1, hz2⟩ := info_parts Try.info3
  replace hi := Lib.hid hi
  go_loopw [3, 4] (fun u t wt => ∃ i : Nat, i ≤ n ∧ t = .int .i64 i ∧ Hid (IntsAt wt u (setOf (namesL ((termsC s.cs).take (i * 2))))) ∧ Hid (Below W0.heap.size W0 wt)) (fun _ t _ => n - (intOf t).toNat)
  case atStart => exact ⟨0, Nat.zero_le _, rfl, ⟨none, 0, by simp [namesL, setOf_nil], .inl (by simp [namesL, setOf_nil])⟩, Below.refl _ _⟩
  case round =>
    obtain ⟨i, hi', rfl, hI, hB⟩ := hrel
    have hsr := Lib.hid (hs.out.later hB.out)
    have s5 := hsr.out.1.cells.2.2.2.2.2
    by_cases hlt : i < n
    · have hlti : (i : Int) < n := by omega
      obtain ⟨x, hx⟩ : ∃ x, s.cs[i]? = some x := ⟨_, List.getElem?_eq_getElem (by rw [hl.out]; exact hlt)⟩
      obtain ⟨b, o, rfl, y0, y1, y2, y3, y4, y5, y6, y7, y8⟩ := hsr.out.cmp hx
      clear y0 y1 y2 y3 y4 y5 y6 y7 y8
      go_upto_region 5 with fail
      have R1 : Hid (∀ X, AsK P s (some ⟨b, o, none⟩) n c wr X → Calls Try.prog 19 #[.agg #[.int .u8 x.l.k, .int .i64 x.l.n, .int .i64 x.l.s, .int .i64 x.l.r]] X fun e Y => ∃ v, e = .returned v ∧ Y.ownsRow wr.heap.size 3 1 v (namesT x.l).length (ints (namesT x.l)) ∧ AsK P s (some ⟨b, o, none⟩) n c wr Y ∧ Below X.heap.size X Y) := by
        show ∀ _, _
        intro X hX
        exact (refNames_any x.l X).mono fun e Y ⟨v, he, hr, hb⟩ => ⟨v, he, row_base hr hX.2.size, hX.later hb, hb⟩
      have R2 : Hid (∀ X, AsK P s (some ⟨b, o, none⟩) n c wr X → Calls Try.prog 19 #[.agg #[.int .u8 x.r.k, .int .i64 x.r.n, .int .i64 x.r.s, .int .i64 x.r.r]] X fun e Y => ∃ v, e = .returned v ∧ Y.ownsRow wr.heap.size 3 1 v (namesT x.r).length (ints (namesT x.r)) ∧ AsK P s (some ⟨b, o, none⟩) n c wr Y ∧ Below X.heap.size X Y) := by
        show ∀ _, _
        intro X hX
        exact (refNames_any x.r X).mono fun e Y ⟨v, he, hr, hb⟩ => ⟨v, he, row_base hr hX.2.size, hX.later hb, hb⟩
      have hn1 := names_le x.l
      have hn2 := names_le x.r
      obtain ⟨p1, hp1⟩ : ∃ p, (namesT x.l).length = p := ⟨_, rfl⟩
      obtain ⟨p2, hp2⟩ : ∃ p, (namesT x.r).length = p := ⟨_, rfl⟩
      rw [hp1] at hn1 R1
      rw [hp2] at hn2 R2
      have hb63 : p1 + p2 ≤ maxLen := by unfold maxLen; omega
      have hb8 : (p1 + p2) * 8 ≤ 140737488355328 := by omega
      have hil : (ints (namesT x.r)).length = p2 * 1 := by simp [hp2]
      have hone : ∀ u ∈ ints (namesT x.r), u.oneCell' = true := by simp [Value.oneCell']
      have hK : AsK P s (some ⟨b, o, none⟩) n c wr wr.drew := ⟨hsr.out.later (Below.refl _ _).drew, (Below.refl _ _).drew⟩
      have hmk : Hid (∀ {X w1 : World} {v : Value}, AsK P s (some ⟨b, o, none⟩) n c wr X → X.ownsRow wr.heap.size 3 1 v p1 (ints (namesT x.l)) → X.grownBy w1 v.ownBlock → AsK P s (some ⟨b, o, none⟩) n c wr w1) := by
        show ∀ {_ _ _}, _
        intro X w1 v hK hr hg
        have hb : Below wr.heap.size wr w1 := Below.grown hK.2 hg hK.2.size (fun j ej => (World.ownsRow.lt hr j ej).1)
        exact ⟨hsr.out.later hb, hb⟩
      have hall := Lib.hid (fun X (h : AsK P s (some ⟨b, o, none⟩) n c wr X) => h.all hx)
      replace hp1 := Lib.hid hp1
      replace hp2 := Lib.hid hp2
      have hxx := Lib.hid hx
      clear hx s5
      obtain ⟨all, hallE⟩ : ∃ l, namesT x.l ++ namesT x.r = l := ⟨_, rfl⟩
      have hallL : Hid (all.length = p1 + p2) := by show _ = _; rw [← hallE, List.length_append, hp1.out, hp2.out]
      have hrow : Hid (∀ {X : World} {v : Value}, X.ownsRow wr.heap.size 3 1 v (p1 + p2) (ints (namesT x.l) ++ ints (namesT x.r)) → IntsAt X v all) := by
        show ∀ {_ _}, _
        intro X v h
        have e : ints (namesT x.l) ++ ints (namesT x.r) = ints all := by rw [← hallE]; simp [ints]
        rw [e] at h
        refine IntsAt.of_row (base := wr.heap.size) ?_
        rw [hallL.out]
        exact h
      replace hallE := Lib.hid hallE
      go_cut [5] from 7 to 40 (fun t wx => IntsAt wx t all ∧ Below wr.heap.size wr wx)
      case first =>
        go_region_held3 (fun X => (X.cell? ⟨P, 5, none⟩ = some (.slice (some ⟨b, o, none⟩) n c) ∧ X.cell? ⟨b, o + i * 9 + 1, none⟩ = some (.int .u8 x.l.k) ∧ X.cell? ⟨b, o + i * 9 + 2, none⟩ = some (.int .i64 x.l.n) ∧
      X.cell? ⟨b, o + i * 9 + 3, none⟩ = some (.int .i64 x.l.s) ∧ X.cell? ⟨b, o + i * 9 + 4, none⟩ = some (.int .i64 x.l.r) ∧ X.cell? ⟨b, o + i * 9 + 5, none⟩ = some (.int .u8 x.r.k) ∧
      X.cell? ⟨b, o + i * 9 + 6, none⟩ = some (.int .i64 x.r.n) ∧ X.cell? ⟨b, o + i * 9 + 7, none⟩ = some (.int .i64 x.r.s) ∧ X.cell? ⟨b, o + i * 9 + 8, none⟩ = some (.int .i64 x.r.r)) ∧ AsK P s (some ⟨b, o, none⟩) n c wr X) (first | exact hall.out _ hK | (try go_split_ands); exact hall.out _ ‹AsK P s (some ⟨b, o, none⟩) n c wr _›) (first
          | (go_at_call 19; (try go_split_ands); (with_reducible refine (R1.out _ ‹AsK P s (some ⟨b, o, none⟩) n c wr _›).mono ?_); rintro e X ⟨v1, rfl, hr1, hK1, hb1⟩)
          | (go_at_call 19; (try go_split_ands); (with_reducible refine (R2.out _ ‹AsK P s (some ⟨b, o, none⟩) n c wr _›).mono ?_); rintro e X ⟨v2, rfl, hr2, hK2, hb2⟩; have hr1' := row_later hr1 hb2; obtain ⟨a8, c8, rfl, hc8⟩ := cells_of_row hr2)
          | (refine step_append_cells (by rfl) (.tmp 20) (.tmp 27) 36 (by rfl) wr.heap.size 3 i0 _ 1 8 Try.underlying36 hi.out hz0 hz1 hz2 rfl (by decide) v1 p1 (ints (namesT x.l)) (by rfl) hr1' a8 p2 c8 (ints (namesT x.r)) (by rfl) hil hc8 hone hb63 hb8 (AsK.later hK2 (Below.refl _ _)).2.size ?_; intro v' w1 hown' hgrow; have hK3 := hmk.out hK2 hr1' hgrow)
          | fail)
        all_goals (go_wp2_with fail; go_meet; exact ⟨hrow.out hown', hK3.2⟩)
      case rest =>
        obtain ⟨hall5, hb5⟩ := hcut
        obtain ⟨X, hX⟩ : ∃ X, namesL ((termsC s.cs).take (i * 2)) = X := ⟨_, rfl⟩
        have hXn : Hid (namesL ((termsC s.cs).take ((i + 1) * 2)) = X ++ all) := by show _ = _; rw [names_two hxx.out, hX, hallE.out]
        have hXl : X.length ≤ 80 := by
          rw [← hX]
          have := namesL_len ((termsC s.cs).take (i * 2))
          rw [List.length_take] at this
          omega
        rw [hX] at hI
        obtain ⟨p, hp⟩ : ∃ p, all.length = p := ⟨_, rfl⟩
        have hp4 : p ≤ 4 := by rw [← hp, hallL.out]; omega
        obtain ⟨a9, c9, rfl⟩ := hall5.lit hp
        have hBw := Lib.hid (kept_trans hB.out hb5)
        have hI5 := Lib.hid (hI.out.later hb5)
        replace hall5 := Lib.hid hall5
        replace hp := Lib.hid hp
        clear R1 R2 hall hrow hmk hK hb5 hX hallE hallL hp1 hp2 hn1 hn2 hone hil hb63 hb8 hI hsr
        go_wp2_with fail
        go_loopw [3, 6] (fun u t wt => ∃ k : Nat, k ≤ p ∧ t = .int .i64 k ∧ Hid (IntsAt wt u (setOf (X ++ all.take k))) ∧ Hid (Below wc.heap.size wc wt)) (fun _ t _ => p - (intOf t).toNat)
        case atStart => exact ⟨0, Nat.zero_le _, rfl, by show IntsAt _ _ _; simpa using hI5.out, Below.refl _ _⟩
        case round =>
          clear hI5
          obtain ⟨k, hk, rfl, hI, hBk⟩ := hrel
          have hallk := Lib.hid (hall5.out.later hBk.out)
          by_cases hltk : k < p
          · have hltki : (k : Int) < p := by omega
            obtain ⟨y, hy⟩ : ∃ y, all[k]? = some y := ⟨_, List.getElem?_eq_getElem (by rw [hp.out]; exact hltk)⟩
            obtain ⟨b6, o6, rfl, z0⟩ := hallk.out.at hp.out hy
            obtain ⟨m, hm⟩ : ∃ m, (setOf (X ++ all.take k)).length = m := ⟨_, rfl⟩
            have hm1 : m ≤ 1000 := by
              have := setOf_len (X ++ all.take k)
              rw [hm, List.length_append, List.length_take] at this
              omega
            obtain ⟨a10, c10, rfl⟩ := hI.out.lit hm
            have hW := with_L a10 m c10 _ y wr hm hm1 (setOf_rising _) hI.out
            have hst : withL (setOf (X ++ all.take k)) y = setOf (X ++ all.take (k + 1)) := by
              rw [withL_setOf, List.take_add_one, hy, List.append_assoc]; rfl
            rw [hst] at hW
            replace hW := Lib.hid hW
            clear hst hm hy hI
            go_wp2_with ((with_reducible refine hW.out.mono ?_); rintro e w2 ⟨v2, rfl, hI2, hb2⟩)
            exact ⟨⟨k + 1, by omega, by go_num, hI2, kept_trans hBk.out hb2⟩, by simp [intOf]; omega⟩
          · obtain rfl : k = p := by omega
            have hltki : ¬ (k : Int) < k := by omega
            have hfin : Hid (IntsAt wr u3 (setOf (namesL ((termsC s.cs).take ((i + 1) * 2))))) := by
              show IntsAt _ _ _
              rw [hXn.out]
              have := hI.out
              rwa [List.take_of_length_le (by rw [hp.out]; exact Nat.le_refl _)] at this
            clear hI
            go_wp2_with fail
            exact ⟨⟨i + 1, by omega, by go_num, hfin.out, kept_trans hBw.out hBk.out⟩, by simp [intOf]; omega⟩
    · obtain rfl : i = n := by omega
      have hlti : ¬ (i : Int) < i := by omega
      have hfin : IntsAt wr u3 (setOf (namesC s.cs)) := by
        have := hI.out
        rwa [List.take_of_length_le (by rw [termsC_len, hl.out]; exact Nat.le_refl _)] at this
      replace hfin := Lib.hid hfin
      clear hI
      go_wp2_with fail
      go_ret
      exact ⟨_, rfl, hfin.out, hb.out.trans (hB.out.mono (by have := hb.out.size; omega))⟩
end Go.Proofs.Ytmgkamljlgmmeaa.Tree
