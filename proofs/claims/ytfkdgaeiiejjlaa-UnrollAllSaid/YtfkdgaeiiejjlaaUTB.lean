/-
  UnrollAll's walk.
-/
import Derived.Test.YtfkdgaeiiejjlaaUTA
import Derived.Test.YtfkdgaeiiejjlaaUQ
import Derived.Test.YtfkdgaeiiejjlaaCZQ
import Derived.Deep.RegionWith
import Derived.Deep.CutRange
import Derived.Deep.CutBlock
namespace Go.Proofs.Ytfkdgaeiiejjlaa.Tree
open Go.ChangeShapes Go.WideShapes Go.ChangeAt Go.RowKit
set_option linter.unusedVariables false
set_option linter.unusedSimpArgs false
set_option maxRecDepth 100000
attribute [local go_sem] Oper.semAt_some
theorem rowsR_is (ss : List Sp) (win : Int) (q : List Int) : decide (q ∈ rowsR ss win) = isP ss win q := by
  unfold rowsR isP
  cases hm : mayB ss win with
  | false => simp
  | true =>
    rw [if_pos rfl, Bool.true_and]
    have := (may_good hm).mem q
    cases h : isL (posS ss 0) q <;> simp_all
theorem rowsR_len {ss : List Sp} {win : Int} {q : List Int} (h : q ∈ rowsR ss win) : 1 ≤ q.length ∧ q.length ≤ 4 := by
  unfold rowsR at h
  split at h
  · rename_i hm; exact (may_good hm).row_len h
  · cases h
theorem rowsR_ahead {ss : List Sp} {win : Int} {i : Nat} {a b : List Int} (ha : (rowsR ss win)[i]? = some a) (hb : (rowsR ss win)[i + 1]? = some b) : aheadL a b = true := by
  unfold rowsR at ha hb
  split at ha
  · rename_i hm
    rw [if_pos hm] at hb
    exact (may_good hm).ahead ha hb
  · simp at ha
theorem many_R {v : Value} {L : List (Sp × Value)} (win : Int) (hc : UnOk L) (w : World) (h : SpsL w v L) :
    Calls Try.prog 14 #[ptV v win] w fun e w' => e = .returned (.int .i64 ((rowsR (L.map (·.1)) win).length : Int)) ∧ Below w.heap.size w w' := by
  have := many_V win hc w h
  unfold rowsR
  split
  · rename_i hm; rw [if_pos hm] at this; exact this
  · rename_i hm; rw [if_neg hm] at this; exact this
theorem may_R {v : Value} {L : List (Sp × Value)} (win : Int) (hg : great (L.map (·.1)) = false) (w : World) (h : SpsL w v L) :
    Calls Try.prog 10 #[ptV v win] w fun e w' => e = .returned (.bool (mayB (L.map (·.1)) win)) ∧ Below w.heap.size w w' := by
  obtain ⟨hS, h40, h20⟩ := Small.of_great hg
  obtain ⟨a, c, rfl⟩ := h.lit rfl
  have hl : L.length ≤ 1000 := Nat.le_trans (by simpa using h40) (by omega)
  exact refMay_L a _ c win L hS.short w rfl hl (fun x hx => h20 x.1 (List.mem_map_of_mem hx)) h
theorem take_mem {R : List (List Int)} {j : Nat} {r q : List Int} (h : R[j]? = some r) : decide (q ∈ R.take (j + 1)) = (decide (q ∈ R.take j) || decide (r = q)) := by
  obtain ⟨hj, e⟩ := List.getElem?_eq_some_iff.1 h
  rw [List.take_succ_eq_append_getElem hj, e]
  by_cases h1 : q ∈ R.take j <;> by_cases h2 : r = q <;> simp [h1, h2]
  · intro h3; exact h2 h3.symm
theorem drop_all (row : List Int) (k : Nat) (hk : k ≤ row.length) : (row.drop k).isEmpty = decide (k = row.length) := by
  by_cases e : k = row.length
  · subst e; simp
  · rw [List.drop_eq_getElem_cons (by omega)]; simp [e]; omega
theorem stepOk_cases (s : Sp) (N : Nat) : (s.neg = true ∧ ((N : Int) == 0) = true ∧ stepOk s N = true) ∨ (s.neg = true ∧ ((N : Int) == 0) = false ∧ stepOk s N = false) ∨ (s.neg = false ∧ ¬ s.min ≤ N ∧ stepOk s N = false) ∨ (s.neg = false ∧ (s.min ≤ N ∧ ¬ (N : Int) ≤ s.max) ∧ stepOk s N = false) ∨ (s.neg = false ∧ (s.min ≤ N ∧ (N : Int) ≤ s.max) ∧ stepOk s N = true) := by
  unfold stepOk
  cases hn : s.neg with
  | true =>
    by_cases h : N = 0
    · exact .inl ⟨rfl, by simp [h], by simp [h]⟩
    · exact .inr (.inl ⟨rfl, by simp [h], by simp [h]⟩)
  | false =>
    by_cases h1 : s.min ≤ N
    · by_cases h2 : (N : Int) ≤ s.max
      · exact .inr (.inr (.inr (.inr ⟨rfl, ⟨h1, h2⟩, by simp [h1, h2]⟩)))
      · exact .inr (.inr (.inr (.inl ⟨rfl, ⟨h1, h2⟩, by simp [h2]⟩)))
    · exact .inr (.inr (.inl ⟨rfl, h1, by simp [h1]⟩))
set_option maxHeartbeats 2000000 in
theorem ahead_Q (a1 : Option Addr) (n1 c1 : Nat) (xs : List Int) (a2 : Option Addr) (n2 c2 : Nat) (ys : List Int) (hn1 : xs.length = n1) (hn2 : ys.length = n2) (hl1 : n1 ≤ 1000000) (hl2 : n2 ≤ 1000000) (w : World) (h1 : CellsAt w a1 (ints xs)) (h2 : CellsAt w a2 (ints ys)) :
    Calls Try.prog 12 #[.slice a1 n1 c1, .slice a2 n2 c2] w fun e w' => e = .returned (.bool (aheadL xs ys)) ∧ ∃ q, w' = w.drewN q := by
  obtain ⟨R, hR⟩ : ∃ R, aheadL xs ys = R := ⟨_, rfl⟩
  rw [hR]
  go_enter Try.func12, Try.ntmps12
  go_wp2
  go_loopw [5] (fun u wr => ∃ k : Nat, k ≤ n1 ∧ k ≤ n2 ∧ u = .int .i64 k ∧ Hid (aheadL (xs.drop k) (ys.drop k) = R) ∧ Hid (∃ q, wr = w.drewN q)) (fun u _ => n1 - (intOf u).toNat)
  case atStart => exact ⟨0, by omega, by omega, rfl, hR, Lib.hid ⟨0, rfl⟩⟩
  case round =>
    clear hR
    obtain ⟨k, hk1, hk2, rfl, hall, hQ⟩ := hrel
    have hB : Below w.heap.size w wr := by obtain ⟨q, e⟩ := hQ.out; rw [e]; exact below_drewN _ _
    have hQ1 : Hid (∀ n, ∃ q, wr.drewN n = w.drewN q) := fun n => by obtain ⟨q, e⟩ := hQ.out; exact ⟨q + n, by rw [e, World.drewN_drewN]⟩
    have hQ2 : Hid (∀ n m, ∃ q, (wr.drewN n).drewN m = w.drewN q) := fun n m => by obtain ⟨q, e⟩ := hQ1.out (n + m); exact ⟨q, by rw [← e, World.drewN_drewN]⟩
    clear hQ
    by_cases hlt1 : k < n1
    · have hki1 : (k : Int) < n1 := by omega
      obtain ⟨x, hx⟩ : ∃ x, xs[k]? = some x := ⟨_, List.getElem?_eq_getElem (by omega)⟩
      by_cases hlt2 : k < n2
      · have hki2 : (k : Int) < n2 := by omega
        have hne1 : ((k : Int) == n1) = false := by simp; omega
        obtain ⟨y, hy⟩ : ∃ y, ys[k]? = some y := ⟨_, List.getElem?_eq_getElem (by omega)⟩
        have hst := Lib.hid (aheadL_step hx hy)
        obtain ⟨b, o, rfl, q1⟩ := ints_look (h1.later hB) hx
        obtain ⟨b2, o2, rfl, q2⟩ := ints_look (h2.later hB) hy
        replace hB := Lib.hid hB
        obtain ⟨q, hq⟩ : ∃ q, (x == y) = q := ⟨_, rfl⟩
        cases q with
        | true =>
          have hnx : Hid (aheadL (xs.drop (k + 1)) (ys.drop (k + 1)) = R) := by
            have := hst.out
            rw [hall.out, if_pos (by simpa using hq)] at this
            exact this.symm
          clear h1 h2 hx hy hall hst
          go_wp2
          go_quiet (fail)
          go_wp2
          go_roundw
          case rel => exact ⟨k + 1, hlt1, hlt2, by go_num, hnx, hQ1.out _⟩
          case measure => simp [intOf]; omega
        | false =>
          have hR : decide (y < x) = R := by
            have := hst.out
            rw [hall.out, if_neg (by simpa using hq)] at this
            exact this.symm
          clear h1 h2 hx hy hall hst
          by_cases hyx : y < x
          · have hyx2 : ¬ x ≤ y := by omega
            obtain rfl : R = true := by rw [← hR]; simpa using hyx
            clear hR
            go_wp2
            go_quiet (fail)
            go_wp2
            go_quiet (fail)
            go_wp2
            go_ret
            exact ⟨rfl, hQ2.out _ _⟩
          · have hyx2 : x ≤ y := by omega
            obtain rfl : R = false := by rw [← hR]; simpa using hyx
            clear hR
            go_wp2
            go_quiet (fail)
            go_wp2
            go_quiet (fail)
            go_wp2
            go_ret
            exact ⟨by show Ending.returned (.bool (decide (y < x))) = _; rw [decide_eq_false (by omega)], hQ2.out _ _⟩
      · have hki2 : ¬ (k : Int) < n2 := by omega
        obtain rfl : R = false := by rw [← hall.out]; exact aheadL_end _ (by omega)
        replace hB := Lib.hid hB
        clear h1 h2 hx hall
        go_wp2
        go_quiet (fail)
        go_wp2
        go_quiet (fail)
        go_wp2
        go_ret
        exact ⟨rfl, hQ2.out _ _⟩
    · have hki1 : ¬ (k : Int) < n1 := by omega
      obtain rfl : k = n1 := by omega
      by_cases hlt2 : k < n2
      · have hki2 : (k : Int) < n2 := by omega
        obtain rfl : R = true := by rw [← hall.out]; exact aheadL_first (by omega) (by omega)
        replace hB := Lib.hid hB
        clear h1 h2 hall
        go_wp2
        go_quiet (fail)
        go_wp2
        go_quiet (fail)
        go_wp2
        go_ret
        exact ⟨rfl, hQ2.out _ _⟩
      · have hki2 : ¬ (k : Int) < n2 := by omega
        obtain rfl : R = false := by rw [← hall.out]; exact aheadL_end _ (by omega)
        replace hB := Lib.hid hB
        clear h1 h2 hall
        go_wp2
        go_quiet (fail)
        go_wp2
        go_quiet (fail)
        go_wp2
        go_ret
        exact ⟨rfl, hQ2.out _ _⟩
set_option maxHeartbeats 4000000 in
theorem allWalk (hwk : WakesU) (v : Value) (L : List (Sp × Value)) (win : Int) (rv : Value) (row : List Int) (w : World) (h : SpsL w v L) (hl : L.length ≤ maxLen) (hq : ∀ x ∈ L, InSp w x) (hr : NmsIn w rv row) :
    Calls Try.prog 3 #[ptV v win, rv] w fun e w' => e = .returned (.bool true) ∧ Below w.heap.size w w' := by
  have hb := kept_new w (.cells #[v, .int .i64 win] 24)
  have hG := great_W win _ hl (h.later hb)
  have hW := Lib.hid hwk
  have hp : PK w v win (w.alloc (.cells #[v, .int .i64 win] 24)) := ⟨PtBox.new w _ _, hb⟩
  have c0 := hp.1.c0
  have c1 := hp.1.c1
  obtain ⟨G, hg⟩ : ∃ G, great (L.map (·.1)) = G := ⟨_, rfl⟩
  rw [hg] at hG
  obtain ⟨a, c, rfl⟩ := h.lit rfl
  have hrC := hr.1
  have hrl := hr.2
  obtain ⟨ar, cr, rfl, hcap, hcr⟩ := hr.1
  clear hr
  replace hcr := Lib.hid hcr
  replace hrC := Lib.hid hrC
  generalize hnr : row.length = nr at *
  generalize hn : L.length = n at *
  replace hnr := Lib.hid hnr
  replace hn := Lib.hid hn
  cases G with
  | true =>
    replace hG := Lib.hid hG
    replace hb := Lib.hid hb
    clear hp h hl hg hwk hq
    go_enter Try.func3, Try.ntmps3
    go_wp2_with (first
      | ((with_reducible refine hG.out.mono ?_); rintro e w2 ⟨rfl, hb2⟩)
      | ((with_reducible refine (hW.out _).mono ?_); rintro e w3 ⟨rfl, hb3⟩))
    go_ret
    exact ⟨rfl, kept_trans hb.out (kept_trans hb2 hb3)⟩
  | false =>
    by_cases h20 : 20 < nr
    · have h20i : (20 : Int) < nr := by omega
      replace hG := Lib.hid hG
      replace hb := Lib.hid hb
      clear hp h hl hg hwk hq
      go_enter Try.func3, Try.ntmps3
      go_wp2_with (first
        | ((with_reducible refine hG.out.mono ?_); rintro e w2 ⟨rfl, hb2⟩)
        | ((with_reducible refine (hW.out _).mono ?_); rintro e w3 ⟨rfl, hb3⟩))
      go_ret
      exact ⟨rfl, kept_trans hb.out (kept_trans hb2 hb3)⟩
    · have h20i : ¬ (20 : Int) < nr := by omega
      have hok := unOk_of hg hq
      have hRw : Hid (∀ X, PK w (.slice a n c) win X → Calls Try.prog 9 #[ptV (.slice a n c) win] X fun e Y => ∃ u, e = .returned u ∧ OwnRows Y X.heap.size u (rowsR (L.map (·.1)) win) ∧ Below X.heap.size X Y) := fun X hX => rows_R win hok X (h.later hX.2)
      have hMy : Hid (∀ X, PK w (.slice a n c) win X → Calls Try.prog 10 #[ptV (.slice a n c) win] X fun e Y => e = .returned (.bool (mayB (L.map (·.1)) win)) ∧ Below X.heap.size X Y) := fun X hX => may_R win hg X (h.later hX.2)
      have hIs : Hid (∀ X, PK w (.slice a n c) win X → Calls Try.prog 13 #[ptV (.slice a n c) win, .slice ar nr cr] X fun e Y => e = .returned (.bool (isP (L.map (·.1)) win row)) ∧ Below X.heap.size X Y) := fun X hX =>
        is_V win hok _ row (by rw [hnr.out]; omega) X (h.later hX.2) (hrC.out.later hX.2)
      have hMn : Hid (∀ X, PK w (.slice a n c) win X → Calls Try.prog 14 #[ptV (.slice a n c) win] X fun e Y => e = .returned (.int .i64 ((rowsR (L.map (·.1)) win).length : Int)) ∧ Below X.heap.size X Y) := fun X hX => many_R win hok X (h.later hX.2)
      have hbd := rowsR_bd (L.map (·.1)) win
      have hRm := rowsR_is (L.map (·.1)) win row
      have hRl := Lib.hid (fun q => @rowsR_len (L.map (·.1)) win q)
      have hRa := Lib.hid (fun i a b => @rowsR_ahead (L.map (·.1)) win i a b)
      have hT := restL_isP (L.map (·.1)) win row
      have hss : (L.map (·.1)).length = n := by simpa using hn.out
      have hat := Lib.hid (fun (i : Nat) (s : Sp) (sv : Value) (hx : L[i]? = some (s, sv)) => show (L.map (·.1))[i]? = some s by simp [hx])
      obtain ⟨M, hM⟩ : ∃ M, mayB (L.map (·.1)) win = M := ⟨_, rfl⟩
      obtain ⟨T, hTT⟩ : ∃ T, isP (L.map (·.1)) win row = T := ⟨_, rfl⟩
      obtain ⟨R, hR⟩ : ∃ R, rowsR (L.map (·.1)) win = R := ⟨_, rfl⟩
      rw [hTT] at hRm hIs hT
      rw [hM] at hMy hT
      rw [hR] at hRw hMn hbd hRm hRl hRa
      obtain ⟨ss, hss'⟩ : ∃ ss, L.map (·.1) = ss := ⟨_, rfl⟩
      rw [hss'] at hT hat hss
      replace hG := Lib.hid hG
      replace hT := Lib.hid hT
      replace hRm := Lib.hid hRm
      replace h := Lib.hid h
      replace hss := Lib.hid hss
      replace hbd := Lib.hid hbd
      have hn41 : n ≤ 41 := by have h1 := (Small.of_great hg).2.1; have h2 := hn.out; simp at h1; omega
      clear hq hg hok hM hTT hR hss' hwk
      go_enter Try.func3, Try.ntmps3
      go_upto_block 0 with (first
        | ((with_reducible refine hG.out.mono ?_); rintro e w2 ⟨rfl, hb2⟩; have hp2 := hp.later hb2; have d0 := hp2.1.c0; have d1 := hp2.1.c1; have Q1 := Lib.hid (hRw.out _ hp2))
        | ((with_reducible refine Q1.out.mono ?_); rintro e w3 ⟨ua, rfl, hoa, hb3⟩; have hp3 := hp2.later hb3; have e0 := hp3.1.c0; have e1 := hp3.1.c1; have Q2 := Lib.hid (hMy.out _ hp3))
        | ((with_reducible refine Q2.out.mono ?_); rintro e w4 ⟨rfl, hb4⟩; have hp4 := hp3.later hb4))
      have hHS := Lib.hid (fun X (hX : Below w4.heap.size w4 X) => (hp4.later hX : PK w (.slice a n c) win X))
      clear hRw hMy Q1 Q2 hG hb c0 c1 d0 d1 e0 e1 hp hp2 hp3
      obtain ⟨vs, hV⟩ := (hoa.later hb4).at
      obtain ⟨aa, m', ca, rfl⟩ := hoa.lit
      obtain ⟨m, hm⟩ : ∃ m, R.length = m := ⟨_, rfl⟩
      have hmm : m' = m := by
        obtain ⟨⟨a', c', e', -⟩, -⟩ := id hV
        injection e' with e1 e2 e3
        omega
      subst hmm
      have hm81 : m' ≤ 81 := by have := hbd.out.1; omega
      replace hm := Lib.hid hm
      replace hV := Lib.hid hV
      have hb0 := Lib.hid (Below.refl w4.heap.size w4)
      clear hoa hb2 hb3 hb4 hp4
      go_cut [6, 7] from 25 to 78 (fun u6 u7 wx => ∃ (F : Bool) (k : Nat), k ≤ nr ∧ u6 = .bool F ∧ u7 = .int .i64 k ∧ Hid ((F && decide (k = nr)) = T) ∧ Hid (Below w4.heap.size w4 wx))
      case first =>
        clear hIs hMn hbd hRm hRl hRa hV hm81
        go_wp2_with fail
        go_loopw [6, 7, 8] (fun u6 u7 u8 wr => ∃ (F : Bool) (k i : Nat), k ≤ nr ∧ i ≤ n ∧ u6 = .bool F ∧ u7 = .int .i64 k ∧ u8 = .int .i64 i ∧ Hid ((F && restL (ss.drop i) i (row.drop k)) = T) ∧ Hid (Below w4.heap.size w4 wr)) (fun _ _ u8 _ => n - (intOf u8).toNat)
        case atStart => exact ⟨M, 0, 0, Nat.zero_le _, Nat.zero_le _, rfl, rfl, rfl, hT, hb0⟩
        case round =>
          clear hT
          obtain ⟨F, k, i, hk, hi, rfl, rfl, rfl, hT, hB⟩ := hrel
          have hPw := hHS.out _ hB.out
          have c0 := hPw.1.c0
          have c1 := hPw.1.c1
          by_cases hlt : i < n
          · have hlti : (i : Int) < n := by omega
            cases F with
            | false =>
              clear hHS
              go_wp2_with fail
              go_meet
              exact ⟨false, k, hk, rfl, rfl, hT, hB⟩
            | true =>
              obtain ⟨⟨s, sv⟩, hx⟩ : ∃ x, L[i]? = some x := ⟨_, List.getElem?_eq_getElem (by have := hn.out; omega)⟩
              have hst := restL_step (hat.out i s sv hx) (row.drop k)
              have hlead := leadN_le (row.drop k) i
              have hatN := Lib.hid (leadN_at (row.drop k) i)
              have hendN := Lib.hid (leadN_end (row.drop k) i)
              obtain ⟨N, hN⟩ : ∃ N, leadN (row.drop k) i = N := ⟨_, rfl⟩
              rw [hN] at hst hlead hatN hendN
              rw [List.length_drop, hnr.out] at hlead
              have hkN : k + N ≤ nr := by omega
              have hnext : Hid ((stepOk s N && restL (ss.drop (i + 1)) (i + 1) (row.drop (k + N))) = T) := by
                have h1 := hT.out
                rw [Bool.true_and, hst, List.drop_drop] at h1
                exact h1
              obtain ⟨b, o, rfl, z0, z1, z2, z3, z4, z5, hv⟩ := (h.out.later hPw.2).step hn.out hx
              obtain ⟨ml, hml⟩ : ∃ ml, s.cs.length = ml := ⟨_, rfl⟩
              obtain ⟨asv, csv, rfl⟩ := hv.lit hml
              clear hv hml
              have hcase := stepOk_cases s N
              clear hst hx hlead hT hat hN
              replace hnr := Lib.hid hnr
              rcases hcase with ⟨g1, g2, g3⟩ | ⟨g1, g2, g3⟩ | ⟨g1, g2, g3⟩ | ⟨g1, ⟨g2, g4⟩, g3⟩ | ⟨g1, ⟨g2, g4⟩, g3⟩
              all_goals
                rw [g1] at z0
                rw [g3] at hnext
                clear g1 g3
                go_wp2_with fail
                go_loopw [7, 9] (fun u7 u9 wr2 => ∃ j kj : Nat, j ≤ N ∧ Hid (kj = k + j) ∧ u7 = .int .i64 kj ∧ u9 = .int .i64 j ∧ wr = wr2) (fun _ u9 _ => N - (intOf u9).toNat)
                case atStart => exact ⟨0, k, Nat.zero_le _, Lib.hid rfl, rfl, rfl, rfl⟩
                case round =>
                  obtain ⟨j, kj, hj, hkj, rfl, rfl, rfl⟩ := hrel
                  by_cases hjN : j < N
                  · have hkn : (kj : Int) < nr := by have := hkj.out; omega
                    have hx1 : row[kj]? = some (i : Int) := by have := hatN.out j hjN; rw [List.getElem?_drop] at this; rw [hkj.out]; exact this
                    obtain ⟨b3, o3, rfl, q1⟩ := ints_look (hcr.out.later hPw.2) hx1
                    clear hx1
                    go_wp2_with fail
                    go_roundw
                    case rel => exact ⟨j + 1, kj + 1, hjN, Lib.hid (by have := hkj.out; omega), by go_num, by go_num, by trivial⟩
                    case measure => simp [intOf]; omega
                  · obtain rfl : j = N := by omega
                    by_cases hkn : (kj : Int) < nr
                    · obtain ⟨x, hx1⟩ : ∃ x, row[kj]? = some x := ⟨_, List.getElem?_eq_getElem (by have := hnr.out.out; omega)⟩
                      have hne : (x == (i : Int)) = false := by
                        have : x ≠ (i : Int) := fun e => hendN.out (by rw [List.getElem?_drop, ← hkj.out, hx1, e])
                        simpa using this
                      obtain ⟨b3, o3, rfl, q1⟩ := ints_look (hcr.out.later hPw.2) hx1
                      clear hx1
                      go_wp2_with fail
                      go_roundw
                      case rel =>
                        first
                          | exact ⟨_, kj, i + 1, by have := hkj.out; omega, hlt, rfl, rfl, by go_num, by rw [hkj.out]; exact hnext, kept_trans hB.out (kept_new _ _)⟩
                          | exact ⟨_, kj, i + 1, by have := hkj.out; omega, hlt, rfl, rfl, by go_num, by rw [hkj.out, show decide ((j : Int) ≤ s.max) = false from decide_eq_false (by omega)]; exact hnext, kept_trans hB.out (kept_new _ _)⟩
                          | exact ⟨_, kj, i + 1, by have := hkj.out; omega, hlt, rfl, rfl, by go_num, by rw [hkj.out, show decide ((j : Int) ≤ s.max) = true from decide_eq_true (by omega)]; exact hnext, kept_trans hB.out (kept_new _ _)⟩
                      case measure => simp [intOf]; omega
                    · go_wp2_with fail
                      go_roundw
                      case rel =>
                        first
                          | exact ⟨_, kj, i + 1, by have := hkj.out; omega, hlt, rfl, rfl, by go_num, by rw [hkj.out]; exact hnext, kept_trans hB.out (kept_new _ _)⟩
                          | exact ⟨_, kj, i + 1, by have := hkj.out; omega, hlt, rfl, rfl, by go_num, by rw [hkj.out, show decide ((j : Int) ≤ s.max) = false from decide_eq_false (by omega)]; exact hnext, kept_trans hB.out (kept_new _ _)⟩
                          | exact ⟨_, kj, i + 1, by have := hkj.out; omega, hlt, rfl, rfl, by go_num, by rw [hkj.out, show decide ((j : Int) ≤ s.max) = true from decide_eq_true (by omega)]; exact hnext, kept_trans hB.out (kept_new _ _)⟩
                      case measure => simp [intOf]; omega
          · have hlti : ¬ (i : Int) < n := by omega
            obtain rfl : i = n := by omega
            have hfin : Hid ((F && decide (k = nr)) = T) := by
              have h1 := hT.out
              rw [List.drop_eq_nil_of_le (by rw [hss.out]; exact Nat.le_refl _), restL, drop_all row k (by rw [hnr.out]; exact hk), hnr.out] at h1
              exact h1
            clear hHS
            go_wp2_with fail
            go_meet
            exact ⟨F, k, hk, rfl, rfl, hfin, hB⟩
      case rest =>
      obtain ⟨F, k, hk, rfl, rfl, hF, hBx⟩ := hcut
      have hTE : Hid ((F && ((k : Int) == nr)) = T) := by
        have h1 := hF.out
        show _ = _
        rw [← h1]
        cases F
        · rfl
        · by_cases e : k = nr
          · subst e; simp
          · simp [e]; omega
      clear hF hT
      go_upto_region 15 with fail
      go_cut [6] from 79 to 85 (fun u6 wx => u6 = .bool T ∧ wx = wc)
      case first =>
        obtain ⟨E, hE⟩ : ∃ E, ((k : Int) == nr) = E := ⟨_, rfl⟩
        rw [hE] at hTE
        cases F <;> cases E
        all_goals
          go_wp2_with fail
          go_meet
          exact ⟨by rw [← hTE.out]; rfl, rfl⟩
      case rest =>
      obtain ⟨rfl, rfl⟩ := hcut
      clear hTE
      go_wp2_with fail
      go_loopw [11, 12] (fun u11 u12 wr => ∃ j : Nat, j ≤ m' ∧ u12 = .int .i64 j ∧ u11 = .bool (decide (row ∈ R.take j)) ∧ Hid (Below w4.heap.size w4 wr)) (fun _ u12 _ => m' - (intOf u12).toNat)
      case atStart => exact ⟨0, Nat.zero_le _, rfl, by simp, hBx⟩
      case round =>
        clear hBx
        obtain ⟨j, hj, rfl, rfl, hB⟩ := hrel
        have hPw := hHS.out _ hB.out
        by_cases hlt : j < m'
        · have hlti : (j : Int) < m' := by omega
          obtain ⟨r, hr⟩ : ∃ r, R[j]? = some r := ⟨_, List.getElem?_eq_getElem (by have := hm.out; omega)⟩
          obtain ⟨hr1, hr4⟩ := hRl.out r (List.mem_of_getElem? hr)
          have htk := take_mem (q := row) hr
          have hVw := hV.out.later hB.out
          obtain ⟨u, hu, mu⟩ := hVw.at hr
          obtain ⟨b, o, rfl, q1⟩ := hVw.cell hu
          have hI := ints2_V (by unfold maxLen; omega) (by rw [hnr.out]; unfold maxLen; omega) wr mu (hrC.out.later hPw.2).nms
          obtain ⟨au, cu, rfl, hcu⟩ := id mu
          have hcX := Lib.hid (fun X (hX : Below w4.heap.size w4 X) k v0 (h0 : vs[k]? = some v0) => show X.cell? ⟨b, o + k, none⟩ = some v0 by
            obtain ⟨b', o', e', q⟩ := (hV.out.later hX).cell h0
            cases e'; exact q)
          have hnX := Lib.hid (fun X (hX : Below w4.heap.size w4 X) k r0 (h0 : R[k]? = some r0) => (hV.out.later hX).at h0)
          obtain ⟨l, hle⟩ : ∃ l, r.length = l := ⟨_, rfl⟩
          rw [hle] at hu hI q1 mu hr1 hr4
          obtain ⟨B, hBB⟩ : ∃ B, decide (row ∈ R.take j) = B := ⟨_, rfl⟩
          obtain ⟨D, hD⟩ : ∃ D, decide (r = row) = D := ⟨_, rfl⟩
          rw [hBB, hD] at htk
          rw [hD] at hI
          rw [hBB]
          replace hI := Lib.hid hI
          replace htk := Lib.hid htk
          replace hr := Lib.hid hr
          replace hu := Lib.hid hu
          replace mu := Lib.hid mu
          replace hPw := Lib.hid hPw
          replace hle := Lib.hid hle
          have hl1 : ¬ (l : Int) < 1 := by omega
          have hl4 : ¬ (4 : Int) < l := by omega
          have hl1n : ¬ l < 1 := by omega
          have hl4n : ¬ 4 < l := by omega
          have hl0n : ¬ l = 0 := by omega
          clear hcu hBB hD hVw hV
          go_upto_region 20 with fail
          go_cut [11] from 92 to 100 (fun t wx => t = .bool (B || D) ∧ Hid (Below wr.heap.size wr wx))
          case first =>
            cases B with
            | true =>
              go_wp2_with fail
              go_meet
              exact ⟨rfl, Lib.hid (Below.refl _ _)⟩
            | false =>
              go_wp2_with ((with_reducible refine hI.out.mono ?_); rintro e w5 ⟨rfl, hb5⟩)
              go_meet
              exact ⟨rfl, hb5⟩
          case rest =>
          obtain ⟨rfl, hb5⟩ := hcut
          have hBc := kept_trans hB.out hb5.out
          have hDw := kept_trans hBc (below_drew wc)
          have q2 := hcX.out _ hDw j _ hu.out
          obtain ⟨B2, hB2⟩ : ∃ B2, (B || D) = B2 := ⟨_, rfl⟩
          rw [hB2] at htk ⊢
          replace hBc := Lib.hid hBc
          replace hDw := Lib.hid hDw
          clear q1 hI hB2
          by_cases hj0 : j = 0
          · have hj0i : ¬ (0 : Int) < j := by omega
            have hj0n : ¬ 0 < j := by omega
            have q1 := hcX.out _ hBc.out j _ hu.out
            replace hj0 := Lib.hid hj0
            go_wp2_with fail
            have hlA : decide ((l : Int) < 1) = false := decide_eq_false (by omega)
            have hlB : decide ((4 : Int) < l) = false := decide_eq_false (by omega)
            have hlC : decide ((0 : Int) < j) = false := decide_eq_false (by omega)
            go_quiet (fail)
            go_wp2_with fail
            go_roundw
            case rel => exact ⟨j + 1, hlt, by go_num, by rw [htk.out], kept_trans hBc.out (below_drewN _ _)⟩
            case measure => simp [intOf]; omega
          · have hj0i : (0 : Int) < j := by omega
            have hj0n : 0 < j := by omega
            obtain ⟨j1, hj1⟩ : ∃ j1, j = j1 + 1 := ⟨j - 1, by omega⟩
            have hjm : (j : Int) - 1 = (j1 : Int) := by omega
            have hj1m : (j1 : Int) < m' := by omega
            obtain ⟨r0, hr0⟩ : ∃ r0, R[j1]? = some r0 := ⟨_, List.getElem?_eq_getElem (by have := hm.out; omega)⟩
            obtain ⟨u0, hu0, mu0⟩ := hnX.out _ hBc.out j1 r0 hr0
            have q3 := hcX.out _ hBc.out j1 _ hu0
            have q1 := hcX.out _ hBc.out j _ hu.out
            have hah := hRa.out j1 r0 r hr0 (by rw [← hj1]; exact hr.out)
            obtain ⟨h01, h04⟩ := hRl.out r0 (List.mem_of_getElem? hr0)
            obtain ⟨a0, c0', rfl, hc0⟩ := mu0
            obtain ⟨av, cv, ev, hcv⟩ := mu.out.later hb5.out
            have hA := fun nn => ahead_Q a0 r0.length c0' r0 av r.length cv r rfl rfl (by omega) (by rw [hle.out]; omega) (wc.drewN nn) (hc0.later (below_drewN _ _)) (hcv.later (below_drewN _ _))
            simp only [hah, hle.out] at hA
            rw [hle.out] at ev
            injection ev with ev1 ev2 ev3
            subst ev1 ev3
            obtain ⟨l0, hl0⟩ : ∃ l0, r0.length = l0 := ⟨_, rfl⟩
            simp only [hl0] at hA q3
            replace hA := Lib.hid hA
            replace hj1 := Lib.hid hj1
            replace hj0 := Lib.hid hj0
            clear hah hl0 hc0 hcv hr0 hu0 h01 h04 ev2
            go_wp2_with fail
            have hlA : decide ((l : Int) < 1) = false := decide_eq_false (by omega)
            have hlB : decide ((4 : Int) < l) = false := decide_eq_false (by omega)
            have hlC : decide ((0 : Int) < j) = true := decide_eq_true (by omega)
            go_quiet (exact Calls.quiet_of (hA.out _))
            go_wp2_with fail
            go_roundw
            case rel => exact ⟨j + 1, hlt, by go_num, by rw [htk.out], kept_trans hBc.out (below_drewN _ _)⟩
            case measure => simp [intOf]; omega
        · have hlti : ¬ (j : Int) < m' := by omega
          obtain rfl : j = m' := by omega
          have hmem : decide (row ∈ R.take j) = T := by rw [List.take_of_length_le (by rw [hm.out]; exact Nat.le_refl _)]; exact hRm.out
          rw [hmem]
          have c0 := hPw.1.c0
          have c1 := hPw.1.c1
          have Q1 := Lib.hid (hIs.out _ hPw)
          replace hPw := Lib.hid hPw
          rw [hm.out] at hMn
          clear hmem hV hHS hlt hj
          cases T
          all_goals
            go_wp2_with (first
              | ((with_reducible refine Q1.out.mono ?_); rintro e w5 ⟨rfl, hb5⟩; have hP5 := hPw.out.later hb5; have d0 := hP5.1.c0; have d1 := hP5.1.c1; have Q2 := Lib.hid (hMn.out _ hP5); replace hP5 := Lib.hid hP5)
              | ((with_reducible refine Q2.out.mono ?_); rintro e w6 ⟨rfl, hb6⟩; have hP6 := hP5.out.later hb6)
              | ((with_reducible refine (hW.out _).mono ?_); rintro e w7 ⟨rfl, hb7⟩))
            go_ret
            exact ⟨rfl, kept_trans hP6.2 hb7⟩
end Go.Proofs.Ytfkdgaeiiejjlaa.Tree
