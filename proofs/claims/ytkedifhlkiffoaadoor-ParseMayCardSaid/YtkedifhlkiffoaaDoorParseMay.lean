/-
  ParseMay of stage 9, at every input: the law's call returns true, for any text, where the ways of comparing lie as the program's text lays them; no other condition.
-/
import Derived.Test.YtkedifhlkiffoaaDoorPU
import Derived.Test.YtkedifhlkiffoaaDoorLP
import Derived.Test.YtkedifhlkiffoaaDoorLU
import Derived.Deep.QuietTactic
import Derived.RegionTactic
import Derived.BigRegion
namespace Go.Proofs.YtkedifhlkiffoaaDoor.parseMay
open Go.ChangeShapes Go.WideShapes Go.ChangeAt Go.RowKit
open Go.ChangeMaps (open_string shut_string)
open Tree (Tm Cp Sp)
set_option linter.unusedVariables false
set_option linter.unusedSimpArgs false
attribute [local go_sem] Oper.semAt_some
theorem bad_one : ∀ (f p : Nat) (l : Bs) (x y : Tk × Nat), x ∈ toksF f p l → y ∈ toksF f p l → x.1.k = 6 → y.1.k = 6 → x = y := by
  intro f
  induction f with
  | zero => intro p l x y hx; cases hx
  | succ f ih =>
    intro p l x y hx hy h1 h2
    simp only [toksF] at hx hy
    by_cases h0 : (textT (firstT (l.drop (blanks l)))).length = 0
    · rw [if_pos h0] at hx hy
      rw [List.mem_singleton.1 hx, List.mem_singleton.1 hy]
    · rw [if_neg h0] at hx hy
      have hne : ¬ (firstT (l.drop (blanks l))).k = 6 := fun e => h0 (by simp [textT, e])
      rcases List.mem_cons.1 hx with rfl | hx
      · exact absurd h1 hne
      rcases List.mem_cons.1 hy with rfl | hy
      · exact absurd h2 hne
      exact ih _ _ _ _ hx hy h1 h2
theorem refAll_ok (l : Bs) (w : World) (hl : l.length ≤ 2000) (h : ∀ x ∈ toks l, x.1.k ≠ 6) :
    Calls Tryd.prog 18 #[S l] w fun e w' => ∃ v, e = .returned (.tuple #[v, .int .i64 0, .int .i64 0]) ∧ TksAt w.heap.size v (toks l) w' ∧ Below w.heap.size w w' := by
  refine (refAll_short ⟨l.toArray⟩ w hl).mono ?_
  rintro e w' (⟨-, ⟨v, rfl, hr⟩, hb⟩ | ⟨t, p, h1, h2, _⟩)
  · exact ⟨v, rfl, hr, hb⟩
  · exact absurd h2 (h _ h1)
theorem box_later {X Y : World} {p : Nat} {a b : Value} {t : TypeId} (hq : X.heap[p]? = some (.cells #[a, b] t (0, 0))) (hb : Below X.heap.size X Y) :
    Y.heap[p]? = some (.cells #[a, b] t (0, 0)) ∧ Y.cell? ⟨p, 0, none⟩ = some a ∧ Y.cell? ⟨p, 1, none⟩ = some b ∧ ∀ i, Y.frozen? ⟨p, i, none⟩ = false := by
  have h := (hb.block p (Array.getElem?_eq_some_iff.1 hq).1).trans hq
  refine ⟨h, ?_, ?_, fun i => ?_⟩
  · simp [World.cell?, h]
  · simp [World.cell?, h]
  · simp [World.frozen?, h]
set_option maxRecDepth 100000 in
set_option maxHeartbeats 1000000 in
theorem may_long (s : ByteArray) (w : World) (ho : OpsAt w) (h : 3000 < s.size) :
    Calls Tryd.prog 4 #[.string s] w fun e w' => e = .returned (.bool true) ∧ Below w.heap.size w w' := by
  have hd : decide ((3000 : Int) < s.size) = true := by simp; omega
  go_enter Tryd.func4, Tryd.ntmps4
  go_wp2_with fail
  (with_reducible refine (wakes_any9 _ ho).mono ?_)
  rintro e w1 ⟨rfl, hb⟩
  go_wp2
  go_ret
  exact ⟨rfl, hb⟩
set_option maxRecDepth 100000 in
set_option maxHeartbeats 4000000 in
theorem may_none (s : ByteArray) (p n : Int) (hn : n = 91 ∨ n = 70) (w : World) (ho : OpsAt w) (h : s.size ≤ 3000)
    (HP : ∀ W, OpsAt W → Calls Tryd.prog 14 #[.string s] W (ParsedB p n W))
    (HA : ∀ W, Calls Tryd.prog 18 #[.string s] W fun e w' => e = .returned (.tuple #[.slice none 0 0, .int .i64 p, .int .i64 n]) ∧ Below W.heap.size W w') :
    Calls Tryd.prog 4 #[.string s] w fun e w' => e = .returned (.bool true) ∧ Below w.heap.size w w' := by
  have hd : decide ((3000 : Int) < s.size) = false := by simp; omega
  have M1 := Lib.hid (HP w ho)
  replace HA := Lib.hid HA
  have hpp : (p == p) = true := by simp
  clear HP
  rcases hn with rfl | rfl
  all_goals
    go_enter Tryd.func4, Tryd.ntmps4
    go_wp2_with fail
    (with_reducible refine M1.out.mono ?_)
    rintro e w1 ⟨hb1, rfl⟩
    have hk : Below w1.heap.size w1 (w1.alloc (.cells #[.slice none 0 0, .int .i64 0] 25)) := (Below.refl _ w1).alloc (Nat.le_refl _) _
    have hb2 := hb1.trans (hk.mono hb1.size)
    have ho2 := (ho.later hb1).later hk
    clear M1
    go_wp2_with fail
    (with_reducible refine (HA.out _).mono ?_)
    rintro e w3 ⟨rfl, hb3⟩
    have ho3 := ho2.later hb3
    have hb4 := hb2.trans (hb3.mono hb2.size)
    obtain ⟨-, z0, z1, -⟩ := box_later (World.alloc_heap_new w1 (.cells #[.slice none 0 0, .int .i64 0] 25)) hb3
    clear HA
    go_wp2_with fail
    (with_reducible refine (wakes_any9 w3 ho3).mono ?_)
    rintro e w4 ⟨rfl, hb5⟩
    go_wp2
    go_ret
    exact ⟨rfl, hb4.trans (hb5.mono hb4.size)⟩
theorem w_other (s c d n : Int) (h1 : ¬ n = 40) (h2 : ¬ n = 91) (h3 : ¬ n = 123) (h4 : ¬ n = 41) (h5 : ¬ n = 93) (h6 : ¬ n = 125) (h7 : ¬ n = 59) (h8 : ¬ n = 44) : stepW (s, c, d) ⟨5, n⟩ = (s, c, d) := by
  simp [stepW, dpW, opn, sht, h1, h2, h3, h4, h5, h6, h7, h8]
theorem w_op (s c d : Int) (t : Tk) (h : t.k = 4) : stepW (s, c, d) t = (s, c + 1, d) := by
  simp [stepW, dpW, opn, sht, h]
theorem w_none (s c d : Int) (t : Tk) (h : ¬ t.k = 5) (h4 : ¬ t.k = 4) : stepW (s, c, d) t = (s, c, d) := by
  simp [stepW, dpW, opn, sht, h, h4]
theorem drop_cmps {L : List (Sp × Value)} {q : Nat} {z : Sp × Value} (h : L[q]? = some z) : cmpsN ((L.map (·.1)).drop q) = z.1.cs.length + cmpsN ((L.map (·.1)).drop (q + 1)) := by
  have hl := (List.getElem?_eq_some_iff.1 h)
  obtain ⟨h1, h2⟩ := hl
  rw [List.drop_eq_getElem_cons (by simpa using h1)]
  simp [cmpsN, h2]
theorem drop_ge (ss : List Sp) (q : Nat) : 0 ≤ cmpsN (ss.drop q) := by
  generalize ss.drop q = t
  induction t with
  | nil => simp [cmpsN]
  | cons a r ih => simp only [cmpsN, List.map_cons, List.sum_cons] at ih ⊢; omega
theorem drop_le (ss : List Sp) (q : Nat) : cmpsN (ss.drop q) ≤ cmpsN ss := by
  induction q generalizing ss with
  | zero => simp
  | succ q ih =>
    cases ss with
    | nil => simp
    | cons a r =>
      have := ih r
      simp only [List.drop_succ_cons, cmpsN, List.map_cons, List.sum_cons] at this ⊢
      omega
theorem bds {s c d : Int} {i n : Nat} (h : (0 ≤ s ∧ s ≤ i) ∧ (0 ≤ c ∧ c ≤ i) ∧ -(i : Int) ≤ d ∧ d ≤ i) (hi : i ≤ n) (hn : n ≤ 2001) : wrap64 (s + 1) = s + 1 ∧ wrap64 (c + 1) = c + 1 ∧ wrap64 (d + 1) = d + 1 ∧ wrap64 (d - 1) = d - 1 := by
  unfold wrap64; omega
theorem wrapi {i n : Nat} (h : i < n) (hn : n ≤ 2001) : wrap64 ((i : Int) + 1) = (i : Int) + 1 := by unfold wrap64; omega
theorem meas {i n : Nat} (h : i < n) : n - (intOf (.int .i64 ((i : Int) + 1))).toNat < n - (intOf (.int .i64 (i : Int))).toNat := by
  simp [intOf]; omega
set_option maxRecDepth 100000 in
set_option maxHeartbeats 8000000 in
theorem may_ok (l : Bs) (w : World) (ho : OpsAt w) (h : l.length ≤ 2000) (h6 : ∀ x ∈ toks l, x.1.k ≠ 6) :
    Calls Tryd.prog 4 #[S l] w fun e w' => e = .returned (.bool true) ∧ Below w.heap.size w w' := by
  have hsz : (⟨l.toArray⟩ : ByteArray).size = l.length := rfl
  have hd : decide ((3000 : Int) < l.length) = false := by simp; omega
  have hpos : 0 < (toks l).length := by unfold toks; simp [toksF]
  have hlen : (toks l).length ≤ 2001 := by have := toks_le l; omega
  have M1 := Lib.hid (parse_u l w (by omega) ho h6)
  have HA := Lib.hid (fun W => refAll_ok l W (by omega) h6)
  have HR := Lib.hid (toks_whole l h6)
  unfold S at *
  go_enter Tryd.func4, Tryd.ntmps4
  go_wp2_with fail
  (with_reducible refine M1.out.mono ?_)
  rintro e w1 ⟨a, c, L, win, at1, er1, hb1, rfl, hSL, hO1, -⟩
  clear M1
  obtain ⟨N, hN⟩ : ∃ N, L.length = N := ⟨_, rfl⟩
  rw [hN] at hSL ⊢
  have hk : Below w1.heap.size w1 (w1.alloc (.cells #[.slice a N c, .int .i64 win] 25)) := (Below.refl _ w1).alloc (Nat.le_refl _) _
  have hb2 := hb1.trans (hk.mono hb1.size)
  have ho2 := (ho.later hb1).later hk
  have hSL2 := hSL.later hk
  go_wp2_with fail
  (with_reducible refine (HA.out _).mono ?_)
  rintro e w3 ⟨v, rfl, ht, hb3⟩
  clear HA
  obtain ⟨g1, d1, rfl⟩ := tks_some ht hpos
  have ho3 := ho2.later hb3
  have hb4 := hb2.trans (hb3.mono hb2.size)
  have hSL3 := hSL2.later hb3
  obtain ⟨-, z0, z1, -⟩ := box_later (World.alloc_heap_new w1 (.cells #[.slice a N c, .int .i64 win] 25)) hb3
  obtain ⟨P, hP⟩ : ∃ P, w1.heap.size = P := ⟨_, rfl⟩
  rw [hP] at z0 z1 ⊢
  clear hb1 hk hb2 ho2 hb3 hSL hSL2 hP
  replace hSL3 := Lib.hid hSL3
  have hsh := Lib.hid (hO1.short (by have := toks_le l; omega))
  have hTO := Lib.hid (toks_tk l)
  have hLT := Lib.hid (HR.out.last)
  rcases hO1 with ⟨hp, rfl, rfl⟩ | ⟨j, x, hp, hx, rfl, rfl, rfl, rfl⟩
  · obtain ⟨hRt, hSt⟩ := patP_right hTO.out hp
    have hsc := scan_pat hLT.out _ _ _ _ _ 0 0 hp (by simp [scan])
    obtain ⟨n, hn⟩ : ∃ n, (toks l).length = n := ⟨_, rfl⟩
    have hbz := scan_bd (toks l) n
    rw [hn] at hpos hlen ht hsc ⊢
    have HN := Lib.hid hn
    clear hn hp hTO hLT HR
    have hNl : (L.map (·.1)).length = N := by simp [hN]
    obtain ⟨x0, hx0⟩ : ∃ x, L[0]? = some x := by
      cases hL0 : L with
      | nil => rw [hL0] at hSt; simp at hSt
      | cons q r => exact ⟨q, rfl⟩
    have hs0 : x0.1.strict = false := by
      have : (L.map (·.1))[0]? = some x0.1 := by rw [List.getElem?_map, hx0]; rfl
      rw [this] at hSt
      simpa using hSt
    have hN1 : 1 ≤ N := by have := (List.getElem?_eq_some_iff.1 hx0).1; omega
    have hNz : ((N : Int) == 0) = false := by simp; omega
    have hNi : (0 : Int) < N := by omega
    have HRt := Lib.hid (Tree.refRight_V win hsh.out w3 hSL3.out)
    rw [hRt] at HRt
    replace hsc := Lib.hid hsc
    replace hbz := Lib.hid hbz
    replace hx0 := Lib.hid hx0
    clear hRt hSt
    go_wp2_with fail
    (with_reducible refine HRt.out.mono ?_)
    rintro e w4 ⟨rfl, hb5⟩
    clear HRt
    have hSL4 := hSL3.out.later hb5
    have y0 := Tree.bcell hb5 (World.block_lt_of_cell? w3 _ z0) z0
    have ho5 := ho3.later hb5
    have hb6 := hb4.trans (hb5.mono hb4.size)
    have ht4 := ht.later hb5
    obtain ⟨⟨a', c', hv, hcs⟩, hcp⟩ := hSL4
    have ea : a = a' ∧ N = L.length ∧ c = c' := by
      injection hv with q1 q2 q3
      exact ⟨q1, q2, q3⟩
    obtain ⟨rfl, -, rfl⟩ := ea
    obtain ⟨bb, oo, rfl, -, -, -, -, x4, -⟩ := Tree.sps_cell hcs hx0.out
    rw [hs0] at x4
    replace hcs := Lib.hid hcs
    replace hcp := Lib.hid hcp
    replace hv := Lib.hid hv
    clear z0 z1 hb5 hb4 ho3 ht hSL3 hsh hx0 hs0
    go_wp2_with fail
    go_loopw [11, 12, 13, 14, 15, 16] (fun t1 t2 t3 u t5 t6 wr => ∃ (i : Nat), i ≤ n ∧ u = .int .i64 i ∧ t1 = .int .i64 (scan (toks l) i).1 ∧ t2 = .int .i64 (scan (toks l) i).2.1 ∧ t3 = .int .i64 (scan (toks l) i).2.2 ∧ wr = w4) (fun _ _ _ u _ _ _ => n - (intOf u).toNat)
    case atStart => exact ⟨0, Nat.zero_le _, rfl, by simp [scan], by simp [scan], by simp [scan], rfl⟩
    case round =>
      obtain ⟨i, hi, rfl, rfl, rfl, rfl, rfl⟩ := hrel
      obtain ⟨s, c0, d, hs⟩ : ∃ s c d, scan (toks l) i = (s, c, d) := ⟨_, _, _, rfl⟩
      have hbi := scan_bd (toks l) i
      rw [hs] at hbi ⊢
      simp only at hbi ⊢
      by_cases hlt : i < n
      · have hlti : (i : Int) < n := Int.ofNat_lt.2 hlt
        have hwi := wrapi hlt hlen
        obtain ⟨y, hy⟩ : ∃ y, (toks l)[i]? = some y := ⟨_, List.getElem?_eq_getElem (by rw [HN.out]; exact hlt)⟩
        obtain ⟨k0, k1, k2⟩ := tks_cell ht4 hy
        have hsc := scan_next hy
        rw [hs] at hsc
        obtain ⟨g1, g2, g3, g4⟩ := bds hbi hi hlen
        clear hbi hs hy y0 x4 k2
        by_cases e5 : y.1.k = 5
        · rw [e5] at k0
          by_cases f40 : y.1.n = 40
          · have hnx := (hsc.trans (congrArg (stepW (s, c0, d)) (tk_eq e5 f40))).trans (w_in s c0 d).1
            rw [f40] at k1
            refine one_s40 hlti hwi g1 g2 g3 g4 rfl k0 k1 ?_
            intros
            refine ⟨⟨_, _, _, _, _, _, _, _, _, _, _, _, _, _, _, _, _, _, _, _, _, _, _, _, _, _, _, _, _, _, _, _, _, _, _, _, _, _, _, _, _, _, _, _, _, _, _, _, _, _, _, _, _, _, _, _, _, _, _, _, _, _, _, _, _, _, _, _, _, _, _, _, _, _, _, _, _, _, _, _, _, _, _, _, _, _, _, _, _, _, _, _, _, _, _, _, _, _, _, _, _, _, _, _, _, _, _, _, _, _, _, _, _, _, ⟨i + 1, hlt, ?_, ?_, ?_, ?_, rfl⟩, rfl⟩, ?_⟩
            · rfl
            · simp only [hnx]
            · simp only [hnx]
            · simp only [hnx]
            · exact meas hlt
          by_cases f91 : y.1.n = 91
          · have hnx := (hsc.trans (congrArg (stepW (s, c0, d)) (tk_eq e5 f91))).trans (w_in s c0 d).2.1
            rw [f91] at k1
            refine one_s91 hlti hwi g1 g2 g3 g4 rfl k0 k1 ?_
            intros
            refine ⟨⟨_, _, _, _, _, _, _, _, _, _, _, _, _, _, _, _, _, _, _, _, _, _, _, _, _, _, _, _, _, _, _, _, _, _, _, _, _, _, _, _, _, _, _, _, _, _, _, _, _, _, _, _, _, _, _, _, _, _, _, _, _, _, _, _, _, _, _, _, _, _, _, _, _, _, _, _, _, _, _, _, _, _, _, _, _, _, _, _, _, _, _, _, _, _, _, _, _, _, _, _, _, _, _, _, _, _, _, _, _, _, _, _, _, _, ⟨i + 1, hlt, ?_, ?_, ?_, ?_, rfl⟩, rfl⟩, ?_⟩
            · rfl
            · simp only [hnx]
            · simp only [hnx]
            · simp only [hnx]
            · exact meas hlt
          by_cases f123 : y.1.n = 123
          · have hnx := (hsc.trans (congrArg (stepW (s, c0, d)) (tk_eq e5 f123))).trans (w_in s c0 d).2.2
            rw [f123] at k1
            refine one_s123 hlti hwi g1 g2 g3 g4 rfl k0 k1 ?_
            intros
            refine ⟨⟨_, _, _, _, _, _, _, _, _, _, _, _, _, _, _, _, _, _, _, _, _, _, _, _, _, _, _, _, _, _, _, _, _, _, _, _, _, _, _, _, _, _, _, _, _, _, _, _, _, _, _, _, _, _, _, _, _, _, _, _, _, _, _, _, _, _, _, _, _, _, _, _, _, _, _, _, _, _, _, _, _, _, _, _, _, _, _, _, _, _, _, _, _, _, _, _, _, _, _, _, _, _, _, _, _, _, _, _, _, _, _, _, _, _, ⟨i + 1, hlt, ?_, ?_, ?_, ?_, rfl⟩, rfl⟩, ?_⟩
            · rfl
            · simp only [hnx]
            · simp only [hnx]
            · simp only [hnx]
            · exact meas hlt
          by_cases f41 : y.1.n = 41
          · have hnx := (hsc.trans (congrArg (stepW (s, c0, d)) (tk_eq e5 f41))).trans (w_out s c0 d).1
            rw [f41] at k1
            refine one_s41 hlti hwi g1 g2 g3 g4 rfl k0 k1 ?_
            intros
            refine ⟨⟨_, _, _, _, _, _, _, _, _, _, _, _, _, _, _, _, _, _, _, _, _, _, _, _, _, _, _, _, _, _, _, _, _, _, _, _, _, _, _, _, _, _, _, _, _, _, _, _, _, _, _, _, _, _, _, _, _, _, _, _, _, _, _, _, _, _, _, _, _, _, _, _, _, _, _, _, _, _, _, _, _, _, _, _, _, _, _, _, _, _, _, _, _, _, _, _, _, _, _, _, _, _, _, _, _, _, _, _, _, _, _, _, _, _, ⟨i + 1, hlt, ?_, ?_, ?_, ?_, rfl⟩, rfl⟩, ?_⟩
            · rfl
            · simp only [hnx]
            · simp only [hnx]
            · simp only [hnx]
            · exact meas hlt
          by_cases f93 : y.1.n = 93
          · have hnx := (hsc.trans (congrArg (stepW (s, c0, d)) (tk_eq e5 f93))).trans (w_out s c0 d).2.1
            rw [f93] at k1
            refine one_s93 hlti hwi g1 g2 g3 g4 rfl k0 k1 ?_
            intros
            refine ⟨⟨_, _, _, _, _, _, _, _, _, _, _, _, _, _, _, _, _, _, _, _, _, _, _, _, _, _, _, _, _, _, _, _, _, _, _, _, _, _, _, _, _, _, _, _, _, _, _, _, _, _, _, _, _, _, _, _, _, _, _, _, _, _, _, _, _, _, _, _, _, _, _, _, _, _, _, _, _, _, _, _, _, _, _, _, _, _, _, _, _, _, _, _, _, _, _, _, _, _, _, _, _, _, _, _, _, _, _, _, _, _, _, _, _, _, ⟨i + 1, hlt, ?_, ?_, ?_, ?_, rfl⟩, rfl⟩, ?_⟩
            · rfl
            · simp only [hnx]
            · simp only [hnx]
            · simp only [hnx]
            · exact meas hlt
          by_cases f125 : y.1.n = 125
          · have hnx := (hsc.trans (congrArg (stepW (s, c0, d)) (tk_eq e5 f125))).trans (w_out s c0 d).2.2
            rw [f125] at k1
            refine one_s125 hlti hwi g1 g2 g3 g4 rfl k0 k1 ?_
            intros
            refine ⟨⟨_, _, _, _, _, _, _, _, _, _, _, _, _, _, _, _, _, _, _, _, _, _, _, _, _, _, _, _, _, _, _, _, _, _, _, _, _, _, _, _, _, _, _, _, _, _, _, _, _, _, _, _, _, _, _, _, _, _, _, _, _, _, _, _, _, _, _, _, _, _, _, _, _, _, _, _, _, _, _, _, _, _, _, _, _, _, _, _, _, _, _, _, _, _, _, _, _, _, _, _, _, _, _, _, _, _, _, _, _, _, _, _, _, _, ⟨i + 1, hlt, ?_, ?_, ?_, ?_, rfl⟩, rfl⟩, ?_⟩
            · rfl
            · simp only [hnx]
            · simp only [hnx]
            · simp only [hnx]
            · exact meas hlt
          by_cases f59 : y.1.n = 59
          · have hnx : scan (toks l) (i + 1) = (if (d == 0) then s + 1 else s, c0, d) := by
              rw [hsc, show y.1 = ⟨5, 59⟩ from tk_eq e5 f59, w_sep s c0 d 59 (.inl rfl)]
              by_cases z : d = 0 <;> simp [z]
            rw [f59] at k1
            refine one_s59 hlti hwi g1 g2 g3 g4 rfl k0 k1 ?_
            intros
            refine ⟨⟨_, _, _, _, _, _, _, _, _, _, _, _, _, _, _, _, _, _, _, _, _, _, _, _, _, _, _, _, _, _, _, _, _, _, _, _, _, _, _, _, _, _, _, _, _, _, _, _, _, _, _, _, _, _, _, _, _, _, _, _, _, _, _, _, _, _, _, _, _, _, _, _, _, _, _, _, _, _, _, _, _, _, _, _, _, _, _, _, _, _, _, _, _, _, _, _, _, _, _, _, _, _, _, _, _, _, _, _, _, _, _, _, _, _, ⟨i + 1, hlt, ?_, ?_, ?_, ?_, rfl⟩, rfl⟩, ?_⟩
            · rfl
            · simp only [hnx]
            · simp only [hnx]
            · simp only [hnx]
            · exact meas hlt
          by_cases f44 : y.1.n = 44
          · have hnx : scan (toks l) (i + 1) = (if (d == 0) then s + 1 else s, c0, d) := by
              rw [hsc, show y.1 = ⟨5, 44⟩ from tk_eq e5 f44, w_sep s c0 d 44 (.inr rfl)]
              by_cases z : d = 0 <;> simp [z]
            rw [f44] at k1
            refine one_s44 hlti hwi g1 g2 g3 g4 rfl k0 k1 ?_
            intros
            refine ⟨⟨_, _, _, _, _, _, _, _, _, _, _, _, _, _, _, _, _, _, _, _, _, _, _, _, _, _, _, _, _, _, _, _, _, _, _, _, _, _, _, _, _, _, _, _, _, _, _, _, _, _, _, _, _, _, _, _, _, _, _, _, _, _, _, _, _, _, _, _, _, _, _, _, _, _, _, _, _, _, _, _, _, _, _, _, _, _, _, _, _, _, _, _, _, _, _, _, _, _, _, _, _, _, _, _, _, _, _, _, _, _, _, _, _, _, ⟨i + 1, hlt, ?_, ?_, ?_, ?_, rfl⟩, rfl⟩, ?_⟩
            · rfl
            · simp only [hnx]
            · simp only [hnx]
            · simp only [hnx]
            · exact meas hlt
          have m40 : (y.1.n == 40) = false := by simpa using f40
          have m91 : (y.1.n == 91) = false := by simpa using f91
          have m123 : (y.1.n == 123) = false := by simpa using f123
          have m41 : (y.1.n == 41) = false := by simpa using f41
          have m93 : (y.1.n == 93) = false := by simpa using f93
          have m125 : (y.1.n == 125) = false := by simpa using f125
          have m59 : (y.1.n == 59) = false := by simpa using f59
          have m44 : (y.1.n == 44) = false := by simpa using f44
          have hnx := (hsc.trans (congrArg (stepW (s, c0, d)) (tk_eq e5 rfl))).trans (w_other s c0 d y.1.n f40 f91 f123 f41 f93 f125 f59 f44)
          refine one_other hlti hwi g1 g2 g3 g4 (bz := (d == 0)) rfl m40 m91 m123 m41 m93 m125 m59 m44 k0 k1 ?_
          intros
          refine ⟨⟨_, _, _, _, _, _, _, _, _, _, _, _, _, _, _, _, _, _, _, _, _, _, _, _, _, _, _, _, _, _, _, _, _, _, _, _, _, _, _, _, _, _, _, _, _, _, _, _, _, _, _, _, _, _, _, _, _, _, _, _, _, _, _, _, _, _, _, _, _, _, _, _, _, _, _, _, _, _, _, _, _, _, _, _, _, _, _, _, _, _, _, _, _, _, _, _, _, _, _, _, _, _, _, _, _, _, _, _, _, _, _, _, _, _, ⟨i + 1, hlt, ?_, ?_, ?_, ?_, rfl⟩, rfl⟩, ?_⟩
          · rfl
          · simp only [hnx]
          · simp only [hnx]
          · simp only [hnx]
          · exact meas hlt
        · by_cases e4 : y.1.k = 4
          · have hnx := hsc.trans (w_op s c0 d y.1 e4)
            rw [e4] at k0
            refine one_op hlti hwi g1 g2 g3 g4 (bz := (d == 0)) rfl k0 k1 ?_
            intros
            refine ⟨⟨_, _, _, _, _, _, _, _, _, _, _, _, _, _, _, _, _, _, _, _, _, _, _, _, _, _, _, _, _, _, _, _, _, _, _, _, _, _, _, _, _, _, _, _, _, _, _, _, _, _, _, _, _, _, _, _, _, _, _, _, _, _, _, _, _, _, _, _, _, _, _, _, _, _, _, _, _, _, _, _, _, _, _, _, _, _, _, _, _, _, _, _, _, _, _, _, _, _, _, _, _, _, _, _, _, _, _, _, _, _, _, _, _, _, ⟨i + 1, hlt, ?_, ?_, ?_, ?_, rfl⟩, rfl⟩, ?_⟩
            · rfl
            · simp only [hnx]
            · simp only [hnx]
            · simp only [hnx]
            · exact meas hlt
          have m5 : (y.1.k == 5) = false := by simpa using e5
          have m4 : (y.1.k == 4) = false := by simpa using e4
          have hnx := hsc.trans (w_none s c0 d y.1 e5 e4)
          refine one_none hlti hwi g1 g2 g3 g4 (bz := (d == 0)) rfl m5 m4 k0 k1 ?_
          intros
          refine ⟨⟨_, _, _, _, _, _, _, _, _, _, _, _, _, _, _, _, _, _, _, _, _, _, _, _, _, _, _, _, _, _, _, _, _, _, _, _, _, _, _, _, _, _, _, _, _, _, _, _, _, _, _, _, _, _, _, _, _, _, _, _, _, _, _, _, _, _, _, _, _, _, _, _, _, _, _, _, _, _, _, _, _, _, _, _, _, _, _, _, _, _, _, _, _, _, _, _, _, _, _, _, _, _, _, _, _, _, _, _, _, _, _, _, _, _, ⟨i + 1, hlt, ?_, ?_, ?_, ?_, rfl⟩, rfl⟩, ?_⟩
          · rfl
          · simp only [hnx]
          · simp only [hnx]
          · simp only [hnx]
          · exact meas hlt
      · obtain rfl : i = n := by omega
        have he := hs.symm.trans hsc.out
        injection he with e1 he
        injection he with e2 e3
        rw [hNl] at e1
        subst e1
        subst e3
        clear hs hbi
        have hcN : c0 = cmpsN (L.map (·.1)) := by omega
        have hc0 : 0 ≤ c0 ∧ c0 ≤ 4000 := by have := hbz.out; rw [hsc.out] at this; simp only at this; omega
        have hN2 : N ≤ 2003 := by have := hbz.out; rw [hsc.out] at this; simp only at this; omega
        replace hcN := Lib.hid hcN
        clear e2
        go_wp2_with fail
        go_loopw [12, 17] (fun t u wz => ∃ (q : Nat), q ≤ N ∧ u = .int .i64 q ∧ t = .int .i64 (cmpsN ((L.map (·.1)).drop q)) ∧ wz = wr) (fun _ u _ => N - (intOf u).toNat)
        case atStart => exact ⟨0, Nat.zero_le _, rfl, by rw [List.drop_zero, hcN.out], rfl⟩
        case round =>
          obtain ⟨q, hq, rfl, rfl, rfl⟩ := hrel
          by_cases hlq : q < N
          · have hlqi : (q : Int) < N := by omega
            obtain ⟨z, hz⟩ : ∃ z, L[q]? = some z := ⟨_, List.getElem?_eq_getElem (by omega)⟩
            obtain ⟨b2, o2, ee, -, -, -, -, -, x5⟩ := Tree.sps_cell hcs.out hz
            cases ee
            obtain ⟨a3, c3, hz2, -⟩ := hcp.out z (List.mem_of_getElem? hz)
            rw [hz2] at x5
            have hdr := drop_cmps hz
            have hle := drop_le (L.map (·.1)) q
            rw [← hcN.out] at hle
            have hge := drop_ge (L.map (·.1)) (q + 1)
            obtain ⟨m, hm⟩ : ∃ m, z.1.cs.length = m := ⟨_, rfl⟩
            rw [hm] at hdr x5
            rw [hdr] at hle ⊢
            have g1 : wrap64 ((m : Int) + cmpsN ((L.map (·.1)).drop (q + 1)) - m) = cmpsN ((L.map (·.1)).drop (q + 1)) := by unfold wrap64; omega
            obtain ⟨G, hG⟩ : ∃ G, cmpsN ((L.map (·.1)).drop (q + 1)) = G := ⟨_, rfl⟩
            rw [hG] at g1 ⊢
            replace hG := Lib.hid hG
            clear hdr hle hge hm hz hz2
            go_wp2_with fail
            exact ⟨⟨q + 1, by omega, by go_num, by simp only [hG.out, g1], trivial⟩, by simp [intOf]; omega⟩
          · obtain rfl : q = N := by omega
            rw [show cmpsN ((L.map (·.1)).drop q) = 0 by rw [List.drop_of_length_le (by omega)]; rfl]
            have g1 : wrap64 (0 + (q : Int) - 1 + 1) = q := by unfold wrap64; omega
            go_wp2_with fail
            (with_reducible refine (wakes_any9 _ ho5).mono ?_)
            rintro e w6 ⟨rfl, hb7⟩
            go_wp2
            go_ret
            exact ⟨rfl, hb6.trans (hb7.mono hb6.size)⟩
  · obtain ⟨n, hn⟩ : ∃ n, (toks l).length = n := ⟨_, rfl⟩
    rw [hn] at hpos hlen ht ⊢
    have HN := Lib.hid hn
    have HX := Lib.hid hx
    have hj := (List.getElem?_eq_some_iff.1 hx).1
    have hjn : j < n := by omega
    have hN0 : N = 0 := hN.symm
    subst hN0
    clear hn hx hp hTO hLT HR hsh hN
    go_wp2_with fail
    go_loopw [9, 10] (fun t u wr => ∃ (i : Nat) (bg : Bool), i ≤ n ∧ u = .int .i64 i ∧ t = .bool bg ∧ (j < i → bg = true) ∧ wr = w3) (fun _ u _ => n - (intOf u).toNat)
    case atStart => exact ⟨0, false, Nat.zero_le _, rfl, rfl, fun h => by omega, rfl⟩
    case round =>
      obtain ⟨i, bg, hi, rfl, rfl, hbg, rfl⟩ := hrel
      by_cases hlt : i < n
      · have hlti : (i : Int) < n := by omega
        obtain ⟨y, hy⟩ : ∃ y, (toks l)[i]? = some y := ⟨_, List.getElem?_eq_getElem (by rw [HN.out]; exact hlt)⟩
        obtain ⟨k0, k1, k2⟩ := tks_cell ht hy
        have hnx : bg = false → j < i + 1 → y.2 = x.2 := fun e hh => by
          have hji : ¬ j < i := fun q => by rw [hbg q] at e; cases e
          obtain rfl : j = i := by omega
          rw [Option.some.inj (hy.symm.trans HX.out)]
        replace hnx := Lib.hid hnx
        clear hbg hy hj
        cases bg
        · by_cases he : (y.2 : Int) = x.2
          · have hb : ((y.2 : Int) == (x.2 : Int)) = true := by simpa using he
            clear hnx
            go_wp2_with fail
            exact ⟨⟨i + 1, true, by omega, by go_num, rfl, fun _ => rfl, trivial⟩, by simp [intOf]; omega⟩
          · have hb : ((y.2 : Int) == (x.2 : Int)) = false := by simpa using he
            replace he := Lib.hid he
            go_wp2_with fail
            exact ⟨⟨i + 1, false, by omega, by go_num, rfl, fun q => absurd (by rw [hnx.out rfl q]) he.out, trivial⟩, by simp [intOf]; omega⟩
        · clear hnx
          go_wp2_with fail
          exact ⟨⟨i + 1, true, by omega, by go_num, rfl, fun _ => rfl, trivial⟩, by simp [intOf]; omega⟩
      · obtain rfl : i = n := by omega
        obtain rfl := hbg hjn
        go_wp2_with fail
        (with_reducible refine (wakes_any9 _ ho3).mono ?_)
        rintro e w4 ⟨rfl, hb5⟩
        go_wp2
        go_ret
        exact ⟨rfl, hb4.trans (hb5.mono hb4.size)⟩
theorem walk (s : ByteArray) (w : World) (ho : OpsAt w) (hs : s.size ≤ maxLen) :
    Calls Tryd.prog 4 #[.string s] w fun e w' => e = .returned (.bool true) ∧ Below w.heap.size w w' := by
  by_cases h : 3000 < s.size
  · exact may_long s w ho h
  have hl : s.data.toList.length ≤ 3000 := by have : s.data.toList.length = s.size := rfl; omega
  by_cases h2 : 2000 < s.size
  · exact may_none s 2000 91 (.inl rfl) w ho (by omega) (fun W hW => parse_lexbad s 2000 91 (by decide) W hW (fun W _ => all_long s W h2)) (fun W => refAll_long s W h2)
  by_cases h6 : ∀ x ∈ toks s.data.toList, x.1.k ≠ 6
  · exact may_ok s.data.toList w ho (by have : s.data.toList.length = s.size := rfl; omega) h6
  · obtain ⟨x, hx⟩ : ∃ x, x ∈ toks s.data.toList ∧ x.1.k = 6 := by
      refine Classical.byContradiction fun hn => h6 fun x hx he => hn ⟨x, hx, he⟩
    refine may_none s x.2 70 (.inr rfl) w ho (by omega) (fun W hW => parse_lexbad s x.2 70 (by decide) W hW (fun W hW => lexAll_bad s.data.toList W (by have : s.data.toList.length = s.size := rfl; omega) hW x.1 x.2 hx.1 hx.2)) (fun W => ?_)
    refine (refAll_short s W (by omega)).mono ?_
    rintro e w' (⟨hno, -⟩ | ⟨t, p, h1, h2, rfl, hb⟩)
    · exact absurd hx.2 (hno _ hx.1)
    · have := bad_one _ _ _ _ _ h1 hx.1 h2 hx.2
      rw [← this]
      exact ⟨rfl, hb⟩
set_option maxRecDepth 100000 in
theorem lifted (os : Os) (started : os.Started) (H : Type) (enc : TypeId × Value → H) :
    ReturnsInHanded {} Tryd.checked os 4 .any (fun w args => (Rows.parseMaySpec.pre enc Tryd.prog Tryd.f4 [] false w args ∧ laidMetH Tryd.prog laid1 w) ∧ sizedMet enc Tryd.prog Tryd.f4 (OpenSpec.ofChange Rows.parseMaySpec) false w args)
      (Rows.parseMaySpec.post enc Tryd.prog Tryd.f4 false true false false) := by
  refine returnsInHanded_of_change_and (C := Tryd.checked) (X := fun w _ => laidMetH Tryd.prog laid1 w) (fun _ _ _ hh h => h.of_heap hh) own started (by kernel_rfl) Tryd.func4
    (ChangeSpec.witness_shaped (enc := enc) (C := Tryd.checked) (os := os) (X := fun w _ => laidMetH Tryd.prog laid1 w) false (World.doorLaid Tryd.prog 400 os) #[.string ⟨#[]⟩] 8 rfl (World.shaped_of_RefB (by kernel_rfl) (by kernel_rfl)) (by kernel_rfl) (by kernel_rfl) (by kernel_rfl) (door_met os _)) ?_
  intro W base args ds gs before hval0 hW _ _ hL _
  have hval : ∀ (j : Nat) t v, Tryd.f4.params[j]? = some t → args[j]? = some v → Value.okWide Tryd.prog W .any base t v := hval0
  have hW' := hW
  obtain ⟨p, q, hA0, hV, rfl, hfz, hnd⟩ := hW
  have hA : DataW.TrodAll enc Tryd.prog W 0 (fun _ => true) true Tryd.f4.params.toList args.toList ds p := hA0
  rw [Tryd.params4] at hA hval
  obtain ⟨v0, vs0, d0, ds0, p0, q0, hargs, rfl, rfl, h0, r0⟩ := trodAll_cons hA
  obtain ⟨rfl, rfl, rfl⟩ := trodAll_nil r0
  obtain rfl : args = #[v0] := by cases args; simp_all
  obtain ⟨rfl, rfl⟩ := trodVars_none hV
  obtain ⟨a0, rfl, rfl, rfl, w0⟩ := open_string Tryd.underlying9 (hval 0 9 v0 rfl rfl) h0
  have ho := ops_of_laid hL
  clear hA0 hval0
  refine (walk a0 W ho w0).mono fun e W' ⟨he, bel⟩ => ?_
  subst he
  exact ⟨_, rfl, _, _, _, [], _, [], hW', trodAll_mk1 (shut_bool Tryd.underlying4 _), (trodAll_cons_mk (shut_string Tryd.underlying9 w0) trodAll_mk0), rfl, bel.frame _, fun h => by cases h⟩

theorem over : Rows.parseMayRow.holds Tryd.pinned (OpenSpec.ofChange Rows.parseMaySpec) :=
  OpenClaim.holds_of_wide 4 Tryd.f4 rfl rfl rfl rfl rfl rfl rfl ⟨rfl, rfl, rfl, rfl, rfl⟩ rfl rfl rfl rfl rfl (by kernel_rfl) Tryd.func4 (by kernel_rfl)
    (of_decide_eq_true (by kernel_rfl)) (by unfold Func.isWrapper; first | (rw [if_pos (by decide +kernel)]; kernel_rfl) | (rw [if_neg (by decide +kernel)]; exact ⟨rfl, rfl⟩))
    (fun os started H enc _ => lifted os started H enc)

theorem proved : Rows.ParseMayCardSaid :=
  Claim7.holds_tied_plain_at .later [] [.data] true (true, "8951fcf2f1aa268f231726c1c9c9cc5d68f7a7c78d087fffac500afabcc0f7a2") true
    over (fun _ h => by cases h) (by kernel_rfl) (fun _ h => by cases h) parseMay_row_tie rfl ⟨rfl, rfl⟩ (by kernel_rfl) rfl
    (fun f fn hf hfn => by
      obtain rfl : f = 4 := Option.some.inj ((show Tryd.prog.funcNamed "straggle/stragglelaw09.ParseMay" = some 4 by kernel_rfl).symm.trans hf) |>.symm
      obtain rfl : fn = Tryd.f4 := (Option.some.inj (Tryd.func4.symm.trans hfn)).symm
      exact ⟨by kernel_rfl, fun j t ht => by
        rw [Tryd.params4] at ht
        have hm : t ∈ [9] := by simpa using Array.mem_of_getElem? ht
        have hall : ([9].all fun u => !Tryd.prog.wantsStandIn u) = true := by kernel_rfl
        exact (show Tryd.prog.wantsStandIn t = false by simpa using List.all_eq_true.1 hall t hm)⟩)
    (by kernel_rfl)
#print axioms proved
end Go.Proofs.YtkedifhlkiffoaaDoor.parseMay
