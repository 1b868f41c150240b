/-
  UnrollOwn's walk; Rows at any pattern that is not too great.
-/
import Derived.Test.YtfkdgaeiiejjlaaUZI
import Derived.Test.YtfkdgaeiiejjlaaRAL
import Derived.Test.YtfkdgaeiiejjlaaCH
import Derived.Deep.RegionWith
import Derived.Deep.CutRange
namespace Go.Proofs.Ytfkdgaeiiejjlaa.Tree
open Go.ChangeShapes Go.WideShapes Go.ChangeAt Go.RowKit
set_option linter.unusedVariables false
set_option linter.unusedSimpArgs false
set_option maxRecDepth 100000
attribute [local go_sem] Oper.semAt_some
abbrev WakesU : Prop := ∀ W : World, Calls Try.prog 8 #[] W fun e W' => e = .returned (.bool true) ∧ Below W.heap.size W W'
/-- What Rows tells of any pattern. -/
def rowsR (ss : List Sp) (win : Int) : List (List Int) := if mayB ss win = true then rowsP ss else []
theorem rowsR_bd (ss : List Sp) (win : Int) : (rowsR ss win).length ≤ 81 ∧ ∀ r ∈ rowsR ss win, r.length ≤ 12 := by
  unfold rowsR
  split
  · rename_i h
    rw [← rowsK_all ss (Nat.le_refl _)]
    exact (may_good h).rowsK_bd _
  · simp
theorem rows_R {v : Value} {L : List (Sp × Value)} (win : Int) (hc : UnOk L) (w : World) (h : SpsL w v L) :
    Calls Try.prog 9 #[ptV v win] w fun e w' => ∃ u, e = .returned u ∧ OwnRows w' w.heap.size u (rowsR (L.map (·.1)) win) ∧ Below w.heap.size w w' := by
  refine (rows_V win hc w h).mono ?_
  rintro e w' ⟨u, h1, h2, h3, h4⟩
  refine ⟨u, h1, ?_, h4⟩
  unfold rowsR
  cases hm : mayB (L.map (·.1)) win with
  | true => rw [if_pos rfl]; exact h2 hm
  | false =>
    rw [if_neg (by simp)]
    obtain rfl := h3 hm
    exact ⟨[], World.ownsRow_nil _ _ _ _, fun i u r hu => by simp at hu⟩
theorem unOk_of {L : List (Sp × Value)} {w : World} (hg : great (L.map (·.1)) = false) (hq : ∀ x ∈ L, InSp w x) : UnOk L := ⟨ck_of hg hq, (Small.of_great hg).1⟩
/-- What the law reads all along: its pattern in a box. -/
def PK (w : World) (v : Value) (win : Int) (X : World) : Prop := PtBox w.heap.size v win X ∧ Below w.heap.size w X
theorem PK.later {w : World} {v : Value} {win : Int} {X Y : World} (h : PK w v win X) (hb : Below X.heap.size X Y) : PK w v win Y := ⟨h.1.later hb, kept_trans h.2 hb⟩
/-- Rows that are turned, one number after the other: a's rows are of a's memory, below N; b's stay. -/
def OwI (w : World) (v : Value) (win : Int) (N : Nat) (ua ub : Value) (vs : List Value) (R : List (List Int)) (X : World) : Prop :=
  X.ownsRow w.heap.size 25 1 ua R.length vs ∧ (∀ (k : Nat) (u : Value) (r : List Int), vs[k]? = some u → R[k]? = some r → ∃ xs : List Int, xs.length = r.length ∧ X.ownsRow w.heap.size 3 1 u r.length (ints xs)) ∧
  (∀ (k : Nat) (u : Value), vs[k]? = some u → ∀ g, u.ownBlock = some g → g < N) ∧ OwnRows X N ub R ∧ PK w v win X
theorem OwI.set {w : World} {v : Value} {win : Int} {N : Nat} {ua ub : Value} {vs : List Value} {R : List (List Int)} {X : World} (h : OwI w v win N ua ub vs R X) {i j : Nat} {g cp m : Nat} {r : List Int}
    (hu : vs[i]? = some (.slice (some ⟨g, 0, none⟩) m cp)) (hr : R[i]? = some r) (hj : j < r.length) (x : Int) : OwI w v win N ua ub vs R (X.setCell ⟨g, j, none⟩ (.int .i64 x)) := by
  obtain ⟨h1, h2, h3, h4, h5⟩ := h
  obtain ⟨xs, hl, ho⟩ := h2 i _ r hu hr
  have hgN := h3 i _ hu g rfl
  have hgr := grownBy_setCell_any X g j (.int .i64 x)
  have hk := own_is ho
  have hSg : w.heap.size ≤ g := own_ge ho g rfl
  obtain ⟨cs, hcs⟩ : ∃ cs, X.heap[g]? = some (.cells cs 3 (0, 0)) := by
    rcases ho.2 with ⟨e, _⟩ | ⟨g', cap, cur, e, _, hg, _⟩
    · cases e
    · cases e; exact ⟨_, hg⟩
  refine ⟨row_kept h1 hgr (fun r e => hk 25 (by decide) r (by cases e; rfl)), fun k u q hku hq => ?_, h3, ?_, ⟨?_, h5.2.setCell (p := ⟨g, j, none⟩) hSg _⟩⟩
  · obtain ⟨ys, hyl, hy⟩ := h2 k u q hku hq
    by_cases e : u.ownBlock = some g
    · rcases hy.2 with ⟨rfl, h0⟩ | ⟨g', cap, cur, rfl, hb, hg, hn, hm, hs, ht⟩
      · simp [Value.ownBlock] at e
      · obtain rfl : g' = g := by simpa [Value.ownBlock] using e
        rw [hcs] at hg
        cases hg
        by_cases hjq : j < q.length
        · have := (hy.stored j (.int .i64 x)).1
          refine ⟨ys.set j x, by simpa using hyl, ?_⟩
          rw [show ints (ys.set j x) = (ints ys).set j (.int .i64 x) from by simp [ints, List.map_set]]
          exact this
        · refine ⟨ys, hyl, hy.1, .inr ⟨g', cap, cs.setIfInBounds j (.int .i64 x), rfl, hb, ?_, hn, hm, by simpa using hs, ?_⟩⟩
          · rw [setCell_eq_setRow X g' j cs 3 (0, 0) _ hcs]
            exact setRow_heap X g' cs _ 3 _ hcs
          · rw [← ht, Array.toList_setIfInBounds, List.take_set_of_le (by omega)]
    · exact ⟨ys, hyl, ownsRow_setCell_other hy e _⟩
  · obtain ⟨vb, k1, k2⟩ := h4
    exact ⟨vb, ownsRow_setCell_below k1 hgN _, fun i u r hu hr => ownsRow_setCell_below (k2 i u r hu hr) hgN _⟩
  · refine block_far h5.1 (fun e => ?_) _ _
    have := h5.1
    rw [e] at this
    rw [show X.heap[g]? = _ from this] at hcs
    cases hcs
theorem own_look {W : World} {base : Nat} {a : Option Addr} {n c m : Nat} {vs : List Value} (h : W.ownsRow base 25 1 (.slice a n c) m vs) {k : Nat} {u : Value} (hu : vs[k]? = some u) : ∃ b, a = some ⟨b, 0, none⟩ ∧ W.cell? ⟨b, k, none⟩ = some u := by
  have hk := (List.getElem?_eq_some_iff.1 hu).1
  have hl : vs.length = m := by have := h.1; simpa using this
  rcases h.2 with ⟨e, h0⟩ | ⟨g, cap, cur, e, hb, hg, hn, hm, hs, ht⟩
  · omega
  · cases e
    refine ⟨g, rfl, ?_⟩
    rw [← ht, List.getElem?_take_of_lt (by omega)] at hu
    simp only [World.cell?, hg]
    simpa using hu
theorem OwnRows.below {W : World} {base : Nat} {v : Value} {R : List (List Int)} {vs : List Value} (h1 : W.ownsRow base 25 1 v R.length vs) (h2 : EachOwn W base vs R) : ∀ (k : Nat) (u : Value), vs[k]? = some u → ∀ g, u.ownBlock = some g → g < W.heap.size := by
  intro k u hu g hg
  have hl : vs.length = R.length := by have := h1.1; simpa using this
  have hk := (List.getElem?_eq_some_iff.1 hu).1
  obtain ⟨r, hr⟩ : ∃ r, R[k]? = some r := ⟨_, List.getElem?_eq_getElem (by omega)⟩
  rcases (h2 k u r hu hr).2 with ⟨rfl, _⟩ | ⟨g', cap, cur, rfl, _, hh, _⟩
  · simp [Value.ownBlock] at hg
  · obtain rfl : g' = g := by simpa [Value.ownBlock] using hg
    exact (Array.getElem?_eq_some_iff.1 hh).1
theorem rows2_W {W : World} {u1 u2 : Value} {vs1 vs2 : List Value} {R : List (List Int)} (h1 : RowsV W u1 vs1 R) (h2 : RowsV W u2 vs2 R) (hl : R.length ≤ 1000000) (hr : ∀ r ∈ R, r.length ≤ 12) :
    Calls Try.prog 18 #[u1, u2] W fun e w' => e = .returned (.bool true) ∧ Below W.heap.size W w' := by
  obtain ⟨⟨a1, c1, rfl, -⟩, -⟩ := id h1
  obtain ⟨⟨a2, c2, rfl, -⟩, -⟩ := id h2
  have := rows2_any a1 _ c1 vs1 R a2 _ c2 vs2 R rfl rfl hl hl (fun r h => Nat.le_trans (hr r h) (by omega)) (fun r h => Nat.le_trans (hr r h) (by omega)) W h1 h2
  simpa using this
set_option maxHeartbeats 4000000 in
theorem ownWalk (hwk : WakesU) (v : Value) (L : List (Sp × Value)) (win : Int) (w : World) (h : SpsL w v L) (hl : L.length ≤ maxLen) (hq : ∀ x ∈ L, InSp w x) :
    Calls Try.prog 6 #[ptV v win] w fun e w' => e = .returned (.bool true) ∧ Below w.heap.size w w' := by
  have hb := kept_new w (.cells #[v, .int .i64 win] 24)
  have hG := great_W win _ hl (h.later hb)
  have hW := Lib.hid hwk
  have hp : PK w v win (w.alloc (.cells #[v, .int .i64 win] 24)) := ⟨PtBox.new w _ _, hb⟩
  have c0 := hp.1.c0
  have c1 := hp.1.c1
  obtain ⟨G, hg⟩ : ∃ G, great (L.map (·.1)) = G := ⟨_, rfl⟩
  rw [hg] at hG
  obtain ⟨a, c, rfl⟩ := h.lit rfl
  generalize hn : L.length = n at *
  cases G with
  | true =>
    replace hG := Lib.hid hG
    replace hb := Lib.hid hb
    clear hp h hl hn hg hwk hq
    go_enter Try.func6, Try.ntmps6
    go_wp2_with (first
      | ((with_reducible refine hG.out.mono ?_); rintro e w2 ⟨rfl, hb2⟩)
      | ((with_reducible refine (hW.out _).mono ?_); rintro e w3 ⟨rfl, hb3⟩))
    go_ret
    exact ⟨rfl, kept_trans hb.out (kept_trans hb2 hb3)⟩
  | false =>
    have hok := unOk_of hg hq
    obtain ⟨R, hR⟩ : ∃ R, rowsR (L.map (·.1)) win = R := ⟨_, rfl⟩
    have hbd := rowsR_bd (L.map (·.1)) win
    rw [hR] at hbd
    have hRw : Hid (∀ X, PK w (.slice a n c) win X → Calls Try.prog 9 #[ptV (.slice a n c) win] X fun e Y => ∃ u, e = .returned u ∧ OwnRows Y X.heap.size u R ∧ Below X.heap.size X Y) := fun X hX => by
      have := rows_R win hok X (h.later hX.2)
      rw [hR] at this; exact this
    replace hG := Lib.hid hG
    clear h hl hq hg hok hR hwk
    go_enter Try.func6, Try.ntmps6
    go_upto_region 3 with ((with_reducible refine hG.out.mono ?_); rintro e w2 ⟨rfl, hb2⟩)
    replace hp := hp.later hb2
    have hp1 : PK w (.slice a n c) win w2.drew := hp.later (below_drew w2)
    clear c0 c1 hG hb hp hb2
    have c0 := hp1.1.c0
    have c1 := hp1.1.c1
    have Q1 := Lib.hid (hRw.out _ hp1)
    go_cut [3, 4] from 10 to 14 (fun ua ub wx => ∃ (N : Nat) (vs : List Value), OwI w (.slice a n c) win N ua ub vs R wx)
    case first =>
      go_region_with (first
        | ((with_reducible refine Q1.out.mono ?_); rintro e wa ⟨ua, rfl, hoa, hba⟩; have hpa := hp1.later hba; have d0 := hpa.1.c0; have d1 := hpa.1.c1; have Q2 := Lib.hid (hRw.out _ hpa))
        | ((with_reducible refine Q2.out.mono ?_); rintro e wb ⟨ub, rfl, hob, hbb⟩; have hpb := hpa.later hbb))
      all_goals
        go_wp2_with fail
        go_meet
        obtain ⟨vs, k1, k2⟩ := hoa.base hp1.2.size
        exact ⟨wa.heap.size, vs, row_later k1 hbb, fun k u r hu hr => ⟨r, rfl, row_later (k2 k u r hu hr) hbb⟩, OwnRows.below k1 k2, hob, hpb⟩
    case rest =>
    obtain ⟨N, vs, hI⟩ := hcut
    have hI0 := hI
    obtain ⟨ua', ca, rfl, -⟩ := cells_of_row hI.1
    obtain ⟨ub', nb, cb, rfl⟩ := hI.2.2.2.1.lit
    have hlb : nb = R.length := by
      obtain ⟨vb, k1, -⟩ := hI.2.2.2.1
      rcases k1.2 with ⟨e, h0⟩ | ⟨g, cap, cur, e, _⟩
      · injection e with e1 e2 e3; omega
      · injection e with e1 e2 e3
    subst hlb
    have hlv : vs.length = R.length := by have := hI.1.1; simpa using this
    obtain ⟨m, hm⟩ : ∃ m, R.length = m := ⟨_, rfl⟩
    rw [hm] at hI hbd hlv ⊢
    have hset := Lib.hid (fun (X : World) (h : OwI w (.slice a n c) win N (.slice ua' m ca) (.slice ub' m cb) vs R X) => @OwI.set _ _ _ _ _ _ _ _ _ h)
    replace hI := Lib.hid hI
    clear hI0 hp1 c0 c1 Q1
    go_wp2_with fail
    go_loopw [5] (fun u wr => ∃ i : Nat, i ≤ m ∧ u = .int .i64 i ∧ Hid (OwI w (.slice a n c) win N (.slice ua' m ca) (.slice ub' m cb) vs R wr)) (fun u _ => m - (intOf u).toNat)
    case atStart => exact ⟨0, Nat.zero_le _, rfl, hI⟩
    case round =>
      clear hI
      obtain ⟨i, hi, rfl, hI⟩ := hrel
      by_cases hlt : i < m
      · have hlti : (i : Int) < m := by omega
        obtain ⟨r, hr⟩ : ∃ r, R[i]? = some r := ⟨_, List.getElem?_eq_getElem (by omega)⟩
        obtain ⟨u, hu⟩ : ∃ u, vs[i]? = some u := ⟨_, List.getElem?_eq_getElem (by omega)⟩
        have hr12 := hbd.2 r (List.mem_of_getElem? hr)
        obtain ⟨xs0, -, ho0⟩ := hI.out.2.1 i u r hu hr
        obtain ⟨au, cu, rfl, -⟩ := cells_of_row ho0
        obtain ⟨b, rfl, -⟩ := own_look hI.out.1 hu
        clear ho0
        replace hu := Lib.hid hu
        replace hr := Lib.hid hr
        obtain ⟨l, hl⟩ : ∃ l, r.length = l := ⟨_, rfl⟩
        rw [hl] at hu hr12
        go_wp2_with fail
        go_loopw [6] (fun u6 wr => ∃ k : Nat, k ≤ l ∧ u6 = .int .i64 k ∧ Hid (OwI w (.slice a n c) win N (.slice (some ⟨b, 0, none⟩) m ca) (.slice ub' m cb) vs R wr)) (fun u6 _ => l - (intOf u6).toNat)
        case atStart => exact ⟨0, Nat.zero_le _, rfl, hI⟩
        case round =>
          clear hI
          obtain ⟨k, hk, rfl, hI⟩ := hrel
          obtain ⟨b', e', q1⟩ := own_look hI.out.1 hu.out
          cases e'
          by_cases hkl : k < l
          · have hkli : (k : Int) < l := by omega
            obtain ⟨xs, hxl, ho⟩ := hI.out.2.1 i _ r hu.out hr.out
            rcases id ho.2 with ⟨e, h0⟩ | ⟨g, cap, cur0, e, -⟩
            · omega
            · cases e
              have q2 := (ho.cellAt k (by omega)).trans (show (ints xs)[k]? = some (.int .i64 xs[k]) from by simp [ints, show k < xs.length by omega])
              have q3 := ho.frozenAt k
              have hn := Lib.hid (hset.out _ hI.out hu.out hr.out (j := k) (by omega) (-7))
              clear ho
              go_wp2_with fail
              exact ⟨⟨k + 1, hkl, by go_num, hn⟩, by simp [intOf]; omega⟩
          · obtain rfl : k = l := by omega
            go_wp2_with fail
            exact ⟨⟨i + 1, hlt, by go_num, hI⟩, by simp [intOf]; omega⟩
      · obtain rfl : i = m := by omega
        have hPw := hI.out.2.2.2.2
        have c0 := hPw.1.c0
        have c1 := hPw.1.c1
        have Q1 := Lib.hid (hRw.out _ hPw)
        have hob := Lib.hid hI.out.2.2.2.1
        replace hPw := Lib.hid hPw
        clear hI hset hlv
        go_wp2_with (first
          | ((with_reducible refine Q1.out.mono ?_); rintro e w5 ⟨u5, rfl, ho5, hb5⟩; obtain ⟨a5, n5, c5, rfl⟩ := ho5.lit; have hP5 := hPw.out.later hb5; obtain ⟨vs5, k5⟩ := ho5.at; obtain ⟨vsb, kb⟩ := (hob.out.later hb5).at; have Q2 := Lib.hid (rows2_W k5 kb (by omega) hbd.2); replace hP5 := Lib.hid hP5)
          | ((with_reducible refine Q2.out.mono ?_); rintro e w6 ⟨rfl, hb6⟩; have hP6 := hP5.out.later hb6)
          | ((with_reducible refine (hW.out _).mono ?_); rintro e w7 ⟨rfl, hb7⟩))
        go_ret
        exact ⟨rfl, kept_trans hP6.2 hb7⟩
end Go.Proofs.Ytfkdgaeiiejjlaa.Tree
