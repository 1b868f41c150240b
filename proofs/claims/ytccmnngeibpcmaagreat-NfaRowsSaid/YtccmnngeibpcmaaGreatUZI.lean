/-
  Several texts in one: UI UJ UK UL UM UN.
-/
import Derived.Test.YtccmnngeibpcmaaGreatUZA
import Derived.Deep.RegionWith
import Derived.Test.YtccmnngeibpcmaaGreatUH
/- between, leading, the document's Ints. -/
namespace Go.Proofs.YtccmnngeibpcmaaGreat.Tree
open Go.ChangeShapes Go.WideShapes Go.ChangeAt Go.RowKit
set_option linter.unusedVariables false
set_option linter.unusedSimpArgs false
set_option maxRecDepth 100000
attribute [local go_sem] Oper.semAt_some
/-- The numbers from one on, so many. -/
def fromL (a : Int) (k : Nat) : List Int := (List.range k).map fun j : Nat => a + (j : Int)
theorem fromL_len (a : Int) (k : Nat) : (fromL a k).length = k := by simp [fromL]
theorem fromL_succ (a : Int) (k : Nat) : fromL a (k + 1) = fromL a k ++ [a + (k : Int)] := by simp [fromL, List.range_succ]
def betL (a b : Int) : List Int := fromL (a + 1) (b - (a + 1)).toNat
set_option maxHeartbeats 1000000 in
theorem between_any (a b : Int) (ha : -1000 ≤ a) (ha2 : a ≤ 1000) (hb : b ≤ 1000) (w : World) :
    Calls Tryz.prog 48 #[.int .i64 a, .int .i64 b] w fun e w' => ∃ v, e = .returned v ∧ w'.ownsRow w.heap.size 3 1 v (betL a b).length (ints (betL a b)) ∧ Below w.heap.size w w' := by
  obtain ⟨i0, hi, hz0, hz1, hz2⟩ := info_parts Tryz.info3
  replace hi := Lib.hid hi
  obtain ⟨N, hN⟩ : ∃ N, N = (b - (a + 1)).toNat := ⟨_, rfl⟩
  have hN2 : N ≤ 2000 := by omega
  have hbet : betL a b = fromL (a + 1) N := by unfold betL; rw [hN]
  rw [hbet, fromL_len]
  clear hbet
  replace hN := Lib.hid hN
  have hw : IntKind.wrap .i64 (a + 1) = a + 1 := by rw [IntKind.wrap_i64]; omega
  go_enter Tryz.func48, Tryz.ntmps48
  go_wp2
  go_loopw [5, 6] (fun v u wr => ∃ k : Nat, k ≤ N ∧ u = .int .i64 (a + 1 + k) ∧ wr.ownsRow w.heap.size 3 1 v k (ints (fromL (a + 1) k)) ∧ Below w.heap.size w wr) (fun _ u _ => (b - intOf u).toNat)
  case atStart => exact ⟨0, Nat.zero_le _, by simp, by simpa [fromL] using World.ownsRow_nil _ _ _ _, Below.refl _ _⟩
  case round =>
    obtain ⟨k, hk, rfl, hown, hB⟩ := hrel
    have hsz := hB.size
    have hN' := hN.out
    by_cases hlt : a + 1 + (k : Int) < b
    · have hkN : k + 1 ≤ N := by omega
      clear hN'
      have hnx : ints (fromL (a + 1) k) ++ [.int .i64 (a + 1 + k)] = ints (fromL (a + 1) (k + 1)) := by rw [fromL_succ]; simp [ints]
      replace hnx := Lib.hid hnx
      have hw2 : IntKind.wrap .i64 (a + 1 + k + 1) = a + 1 + (k + 1 : Nat) := by rw [IntKind.wrap_i64]; omega
      replace hw2 := Lib.hid hw2
      have hown' := hown.alloc (.cells #[.int .i64 (a + 1 + k)] 3)
      go_wp2_with (at_builtin; refine wpList_append_own _ rfl _ _ 28 rfl w.heap.size 3 i0 (.int .i64 0) 1 8 Tryz.underlying28 hi.out hz0 hz1 hz2 rfl (by decide) u5 _ _ rfl hown' ⟨wr.heap.size, 0, none⟩ 1 1 [.int .i64 (a + 1 + k)] rfl rfl (cell_one_new _ _ _) (by simp [Value.oneCell']) (by unfold maxLen; omega) (by omega) (by simp; omega) ?_; intro v6 w6 hown6 hgrow6 _)
      have hB6 := (hB.trans (kept_new wr (.cells #[.int .i64 (a + 1 + k)] 3) |>.mono hsz)).grown hgrow6 (by simp; omega) (own_ge hown')
      exact ⟨⟨k + 1, hkN, by simp; omega, by rw [← hnx.out]; exact hown6, hB6⟩, by simp [intOf]; omega⟩
    · obtain rfl : k = N := by omega
      clear hN'
      go_wp2
      go_ret
      exact ⟨_, rfl, hown, hB⟩
/-- How often a step's number stands at a row's beginning. -/
def leadN : List Int → Int → Nat
  | [], _ => 0
  | x :: r, i => if x = i then leadN r i + 1 else 0
theorem leadN_le (r : List Int) (i : Int) : leadN r i ≤ r.length := by
  induction r with
  | nil => simp [leadN]
  | cons x r ih => simp only [leadN, List.length_cons]; split <;> omega
theorem leadN_at (r : List Int) (i : Int) (k : Nat) (hk : k < leadN r i) : r[k]? = some i := by
  induction r generalizing k with
  | nil => simp [leadN] at hk
  | cons x r ih =>
    simp only [leadN] at hk
    split at hk
    · rename_i h
      cases k with
      | zero => simp [h]
      | succ k => rw [List.getElem?_cons_succ]; exact ih k (by omega)
    · omega
theorem leadN_end (r : List Int) (i : Int) : r[leadN r i]? ≠ some i := by
  induction r with
  | nil => simp [leadN]
  | cons x r ih =>
    simp only [leadN]
    split
    · rw [List.getElem?_cons_succ]; exact ih
    · rename_i h; simpa using h
set_option maxHeartbeats 1000000 in
theorem leading_any (a : Option Addr) (n c : Nat) (xs : List Int) (i : Int) (hn : xs.length = n) (hlim : n ≤ 140737488351232) (w : World) (h : CellsAt w a (ints xs)) :
    Calls Tryz.prog 88 #[.slice a n c, .int .i64 i] w fun e w' => e = .returned (.int .i64 (leadN xs i)) ∧ w = w' := by
  obtain ⟨N, hN⟩ : ∃ N, leadN xs i = N := ⟨_, rfl⟩
  have hle := leadN_le xs i
  have hat := Lib.hid (leadN_at xs i)
  have hend := Lib.hid (leadN_end xs i)
  rw [hN] at hle hat hend ⊢
  rw [hn] at hle
  clear hN
  go_enter Tryz.func88, Tryz.ntmps88
  go_wp2
  go_loopw [5] (fun u wr => ∃ k : Nat, k ≤ N ∧ u = .int .i64 k ∧ w = wr) (fun u _ => n + 1 - (intOf u).toNat)
  case atStart => exact ⟨0, Nat.zero_le _, rfl, rfl⟩
  case round =>
    obtain ⟨k, hk, rfl, rfl⟩ := hrel
    by_cases hlt : k < N
    · have hkn : (k : Int) < n := by omega
      obtain ⟨b, o, rfl, hcell⟩ := ints_look h (hat.out k hlt)
      clear h
      go_wp2
      go_roundw
      case rel => exact ⟨k + 1, hlt, by go_num, trivial⟩
      case measure => simp [intOf]; omega
    · obtain rfl : k = N := by omega
      by_cases hkn : k < n
      · have hkni : (k : Int) < n := by omega
        obtain ⟨x, hx⟩ : ∃ x, xs[k]? = some x := ⟨_, List.getElem?_eq_getElem (by omega)⟩
        obtain ⟨b, o, rfl, hcell⟩ := ints_look h hx
        have hne : x ≠ i := fun e => hend.out (e ▸ hx)
        have hB : (x == i) = false := by simpa using hne
        clear h hx
        go_wp2
        go_ret
        exact ⟨rfl, rfl⟩
      · have hkni : ¬ (k : Int) < n := by omega
        go_wp2
        go_ret
        exact ⟨rfl, rfl⟩
end Go.Proofs.YtccmnngeibpcmaaGreat.Tree
/- The document's Ints; the law's rows. -/
namespace Go.Proofs.YtccmnngeibpcmaaGreat.Tree
open Go.ChangeShapes Go.WideShapes Go.ChangeAt Go.RowKit
set_option linter.unusedVariables false
set_option linter.unusedSimpArgs false
set_option maxRecDepth 100000
attribute [local go_sem] Oper.semAt_some
theorem below_drewN (w : World) (n : Nat) : Below w.heap.size w (w.drewN n) := ⟨rfl, rfl, rfl, Nat.le_refl _, fun _ _ => rfl⟩
theorem below_drew (w : World) : Below w.heap.size w w.drew := ⟨rfl, rfl, rfl, Nat.le_refl _, fun _ _ => rfl⟩
theorem RowsV.get {W : World} {a : Option Addr} {n c : Nat} {vs : List Value} {R : List (List Int)} (h : RowsV W (.slice a n c) vs R) {k : Nat} {r : List Int} (hr : R[k]? = some r) :
    ∃ b o u, a = some ⟨b, o, none⟩ ∧ W.cell? ⟨b, o + k, none⟩ = some u ∧ NmsAt W u r := by
  obtain ⟨u, hu, hn⟩ := h.at hr
  obtain ⟨b, o, e, hc⟩ := h.cell hu
  exact ⟨b, o, u, e, hc, hn⟩
end Go.Proofs.YtccmnngeibpcmaaGreat.Tree
/- unroll.Is, Many, After. -/
namespace Go.Proofs.YtccmnngeibpcmaaGreat.Tree
open Go.ChangeShapes Go.WideShapes Go.ChangeAt Go.RowKit
set_option linter.unusedVariables false
set_option linter.unusedSimpArgs false
set_option maxRecDepth 100000
attribute [local go_sem] Oper.semAt_some
/-- Numbers in memory, in a slice that has room for them. -/
def NmsC (W : World) (v : Value) (xs : List Int) : Prop := ∃ a c, v = .slice a xs.length c ∧ xs.length ≤ c ∧ CellsAt W a (ints xs)
theorem NmsC.later {W W' : World} {v : Value} {xs : List Int} (h : NmsC W v xs) (hb : Below W.heap.size W W') : NmsC W' v xs := by
  obtain ⟨a, c, e, hc, h⟩ := h; exact ⟨a, c, e, hc, h.later hb⟩
theorem NmsC.nms {W : World} {v : Value} {xs : List Int} (h : NmsC W v xs) : NmsAt W v xs := by
  obtain ⟨a, c, e, hc, h⟩ := h; exact ⟨a, c, e, h⟩
theorem nmsC_own {W : World} {base : Nat} {v : Value} {xs : List Int} {n : Nat} (h : W.ownsRow base 3 1 v n (ints xs)) : NmsC W v xs := by
  obtain ⟨a, c, rfl, hc⟩ := nms_own h
  refine ⟨a, c, rfl, ?_, hc⟩
  rcases h.2 with ⟨e, h0⟩ | ⟨g, cap, cur, e, _, _, h, _⟩
  · obtain ⟨rfl, hl, rfl⟩ : a = none ∧ xs.length = 0 ∧ c = 0 := by injection e with e1 e2 e3; exact ⟨e1, e2, e3⟩
    omega
  · obtain ⟨-, hl, rfl⟩ : a = some ⟨g, 0, none⟩ ∧ xs.length = n ∧ c = cap := by injection e with e1 e2 e3; exact ⟨e1, e2, e3⟩
    omega
/-- Is a row what is left of such steps, so many times each as it may come? -/
def isL : List (Nat × Sp) → List Int → Bool
  | [], row => row.isEmpty
  | x :: P, row => if ((leadN row x.1 : Nat) : Int) < x.2.min ∨ x.2.max < ((leadN row x.1 : Nat) : Int) then false else isL P (row.drop (leadN row x.1))
def isP (ss : List Sp) (win : Int) (row : List Int) : Bool := mayB ss win && isL (posS ss 0) row
theorem isL_low {P : List (Nat × Sp)} {k : Nat} {x : Nat × Sp} {q : List Int} (h : P[k]? = some x) (hl : ((leadN q x.1 : Nat) : Int) < x.2.min) : isL (P.drop k) q = false := by
  obtain ⟨hk, e⟩ := List.getElem?_eq_some_iff.1 h
  rw [List.drop_eq_getElem_cons hk, e, isL, if_pos (.inl hl)]
theorem isL_high {P : List (Nat × Sp)} {k : Nat} {x : Nat × Sp} {q : List Int} (h : P[k]? = some x) (hl : x.2.max < ((leadN q x.1 : Nat) : Int)) : isL (P.drop k) q = false := by
  obtain ⟨hk, e⟩ := List.getElem?_eq_some_iff.1 h
  rw [List.drop_eq_getElem_cons hk, e, isL, if_pos (.inr hl)]
theorem isL_next {P : List (Nat × Sp)} {k : Nat} {x : Nat × Sp} {q : List Int} (h : P[k]? = some x) (h1 : ¬ ((leadN q x.1 : Nat) : Int) < x.2.min) (h2 : ¬ x.2.max < ((leadN q x.1 : Nat) : Int)) : isL (P.drop k) q = isL (P.drop (k + 1)) (q.drop (leadN q x.1)) := by
  obtain ⟨hk, e⟩ := List.getElem?_eq_some_iff.1 h
  rw [List.drop_eq_getElem_cons hk, e, isL, if_neg (by omega)]
theorem tail_W {v : Value} {L : List (Sp × Value)} (win : Int) (hc : UnOk L) (w : World) (h : SpsL w v L) :
    Calls Tryz.prog 49 #[ptV v win] w fun e w' => e = .returned (.int .i64 (tailP (L.map (·.1)))) ∧ Below w.heap.size w w' :=
  tail_V win (Nat.le_trans (by simpa using hc.2.len) (by omega)) w h
def afterL (ss : List Sp) (win : Int) : List Int := if mayB ss win = true then betL ((ss.length : Int) - 1 - tailP ss) ss.length else []
theorem tailP_bd (ss : List Sp) (h : ss.length ≤ 41) : 0 ≤ tailP ss ∧ tailP ss ≤ 41 := by
  have := lastU_bd ss ss.length
  unfold tailP; omega
set_option maxHeartbeats 1000000 in
theorem after_V {v : Value} {L : List (Sp × Value)} (win : Int) (hc : UnOk L) (w : World) (h : SpsL w v L) :
    Calls Tryz.prog 26 #[ptV v win] w fun e w' => ∃ u, e = .returned u ∧ w'.ownsRow w.heap.size 3 1 u (afterL (L.map (·.1)) win).length (ints (afterL (L.map (·.1)) win)) ∧ Below w.heap.size w w' := by
  have hb := Lib.hid (kept_new w (.cells #[v, .int .i64 win] 24))
  have hM := Lib.hid (may_V win hc.1 _ (h.later hb.out))
  have hT := Lib.hid (fun W (hW : Below w.heap.size w W) => tail_W win hc W (h.later hW))
  have hpt := PtBox.new w v win
  have c0 := hpt.c0
  have c1 := hpt.c1
  obtain ⟨a, c, rfl⟩ := h.lit rfl
  have hlen : L.length ≤ 41 := by simpa using hc.2.len
  have htb := tailP_bd (L.map (·.1)) (by simpa using hlen)
  unfold afterL
  rw [List.length_map]
  obtain ⟨T, hTT⟩ : ∃ T, tailP (L.map (·.1)) = T := ⟨_, rfl⟩
  rw [hTT] at hT htb ⊢
  obtain ⟨m, hmm⟩ : ∃ m, mayB (L.map (·.1)) win = m := ⟨_, rfl⟩
  rw [hmm] at hM ⊢
  generalize hn : L.length = n at *
  clear h hc hmm hTT hn
  have hBe := Lib.hid (fun W => between_any ((n : Int) - 1 - T) n (by omega) (by omega) (by omega) W)
  replace hpt := Lib.hid hpt
  have hw1 : IntKind.wrap .i64 ((n : Int) - 1) = n - 1 := by rw [IntKind.wrap_i64]; omega
  have hw2 : IntKind.wrap .i64 ((n : Int) - 1 - T) = n - 1 - T := by rw [IntKind.wrap_i64]; omega
  go_enter Tryz.func26, Tryz.ntmps26
  go_wp2
  refine wp_scope_jumps 0 (fun a' W => m = false ∧ Below w.heap.size w W ∧ ∃ (u0 u1 u2 u3 u4 u5 u6 u7 u8 u9 u10 u11 u12 u13 u14 u15 u16 : Value),
    a' = { tmps := #[u0, u1, u2, u3, u4, u5, u6, u7, u8, u9, u10, u11, u12, u13, u14, u15, u16], defers := [] }) (fun _ _ => 0) rfl ?_ ?_
  · cases m with
    | true =>
      go_wp2_with (first
        | ((with_reducible refine hM.out.mono ?_); rintro e w2 ⟨rfl, hb2⟩; have hB2 := kept_trans hb.out hb2; have hT2 := hT.out _ hB2; have c0 := (hpt.out.later hb2).c0; have c1 := (hpt.out.later hb2).c1; replace hb2 := Lib.hid hb2)
        | ((with_reducible refine hT2.mono ?_); rintro e w3 ⟨rfl, hb3⟩)
        | ((with_reducible refine (hBe.out _).mono ?_); rintro e w4 ⟨u, rfl, ho, hb4⟩))
      rw [jump_ret]
      go_ret
      exact ⟨u, rfl, row_base ho (Nat.le_trans hB2.size hb3.size), kept_trans (kept_trans hB2 hb3) hb4⟩
    | false =>
      go_wp2_with ((with_reducible refine hM.out.mono ?_); rintro e w2 ⟨rfl, hb2⟩)
      refine wp_goto ?_
      exact ⟨rfl, rfl, kept_trans hb.out hb2, _, _, _, _, _, _, _, _, _, _, _, _, _, _, _, _, _, rfl⟩
  · rintro ⟨t, d⟩ w2 ⟨rfl, hB, u0, u1, u2, u3, u4, u5, u6, u7, u8, u9, u10, u11, u12, u13, u14, u15, u16, he⟩
    cases he
    go_wp2
    rw [jump_ret]
    go_ret
    exact ⟨_, rfl, World.ownsRow_nil _ _ _ _, hB⟩
end Go.Proofs.YtccmnngeibpcmaaGreat.Tree
/- unroll.Is. -/
namespace Go.Proofs.YtccmnngeibpcmaaGreat.Tree
open Go.ChangeShapes Go.WideShapes Go.ChangeAt Go.RowKit
set_option linter.unusedVariables false
set_option linter.unusedSimpArgs false
set_option maxRecDepth 100000
attribute [local go_sem] Oper.semAt_some
/-- What the loop over the positive steps has: what is left of the row, in a box. -/
def IsI (w : World) (a : Option Addr) (n c : Nat) (win : Int) (ss : List Sp) (row : List Int) (B : Nat) (ap : Option Addr) (np cp : Nat) (xs : List Int) (k : Nat) (W : World) : Prop :=
  ∃ (q : List Int) (aq : Option Addr) (nq cq : Nat), q.length = nq ∧ nq ≤ cq ∧ nq ≤ row.length ∧ CellsAt w aq (ints q) ∧ isL (posS ss 0) row = isL ((posS ss 0).drop k) q ∧
    Boxed W (w.heap.size + 1) 28 (.slice aq nq cq) ∧ PtBox w.heap.size (.slice a n c) win W ∧ W.heap[B]? = some (.cells #[.slice ap np cp] 28 (0, 0)) ∧ w.heap.size + 1 < B ∧
    W.ownsRow w.heap.size 3 1 (.slice ap np cp) np (ints xs) ∧ Below w.heap.size w W
theorem IsI.own (w : World) (a : Option Addr) (n c : Nat) (win : Int) (ss : List Sp) (row : List Int) (P : Nat) (ap : Option Addr) (np cp : Nat) (xs : List Int) (B : Nat) (hB : w.heap.size ≤ B) : OwnFrom B (IsI w a n c win ss row P ap np cp xs) := by
  rintro k X Y r ⟨q, aq, nq, cq, e1, e2, e3, e4, e5, h1, h3, h4, e6, h5, h6⟩ hg hrow
  refine ⟨q, aq, nq, cq, e1, e2, e3, e4, e5, ownFrom_block _ (fun _ : Unit => _) 28 B () X Y r h1 hg hrow, ownFrom_block _ (fun _ : Unit => _) 24 B () X Y r h3 hg hrow, ownFrom_block _ (fun _ : Unit => _) 28 B () X Y r h4 hg hrow, e6,
    row_kept h5 hg (fun j e => ?_), ownFrom_below (Nat.le_refl _) hB k X Y r h6 hg hrow⟩
  obtain ⟨o, ho, hc⟩ := (hrow j e).2
  exact ⟨o, ho, no_cells hc 3⟩
/-- How the loop is left early. -/
def IsO (w : World) (ss : List Sp) (row : List Int) (c : Code) (W : World) : Prop := c = .goto 0 ∧ isL (posS ss 0) row = false ∧ Below w.heap.size w W
theorem IsO.own (w : World) (ss : List Sp) (row : List Int) (B : Nat) (hB : w.heap.size ≤ B) : OwnFrom B (IsO w ss row) := by
  rintro k X Y r ⟨h1, h2, h3⟩ hg hrow
  exact ⟨h1, h2, ownFrom_below (Nat.le_refl _) hB k X Y r h3 hg hrow⟩
/-- How Is is left for its last line: false. -/
def IsJ (w : World) (b : Bool) (a' : Act) (W : World) : Prop :=
  b = false ∧ Below w.heap.size w W ∧ (a'.defers = [] ∨ ∃ D, a'.defers = [{ target := .collected D, args := #[] }] ∧ W.heap[D]? = some (.deferred (some [])) ∧ w.heap.size ≤ D) ∧
  ∃ (u0 u1 u2 u3 u4 u5 u6 u7 u8 u9 u10 u11 u12 u13 u14 u15 u16 u17 u18 u19 u20 u21 u22 u23 u24 u25 u26 u27 u28 u29 u30 u31 u32 u33 u34 u35 u36 u37 u38 u39 u40 : Value), a'.tmps = #[u0, u1, u2, u3, u4, u5, u6, u7, u8, u9, u10, u11, u12, u13, u14, u15, u16, u17, u18, u19, u20, u21, u22, u23, u24, u25, u26, u27, u28, u29, u30, u31, u32, u33, u34, u35, u36, u37, u38, u39, u40]
set_option maxHeartbeats 2000000 in
theorem is_V {v : Value} {L : List (Sp × Value)} (win : Int) (hc : UnOk L) (rv : Value) (row : List Int) (hrow : row.length ≤ 1000000) (w : World) (h : SpsL w v L) (hr : NmsC w rv row) :
    Calls Tryz.prog 63 #[ptV v win, rv] w fun e w' => e = .returned (.bool (isP (L.map (·.1)) win row)) ∧ Below w.heap.size w w' := by
  have hM := Lib.hid (fun W (hW : Below w.heap.size w W) => may_V win hc.1 W (h.later hW))
  have hP := Lib.hid (fun W (hW : Below w.heap.size w W) => positive_V win hc.2 W (h.later hW))
  obtain ⟨a, c, rfl⟩ := h.lit rfl
  obtain ⟨ar, cr, rfl, hcap, hcr⟩ := hr
  have hlen : L.length ≤ 1000000 := Nat.le_trans (by simpa using hc.2.len) (by omega)
  unfold isP
  obtain ⟨n, hn⟩ : ∃ n, L.length = n := ⟨_, rfl⟩
  obtain ⟨m, hmm⟩ : ∃ m, mayB (L.map (·.1)) win = m := ⟨_, rfl⟩
  rw [hn] at hM hP h hlen ⊢
  rw [hmm] at hM ⊢
  obtain ⟨R, hR⟩ : ∃ R, isL (posS (L.map (·.1)) 0) row = R := ⟨_, rfl⟩
  rw [hR]
  generalize hnr : row.length = nr at *
  refine (callsIn_wide (n := 9)).1 ?_
  refine callsIn_of_wp_marks Tryz.func63 rfl trivial ?_ rfl
  rw [wpIn_wide]
  simp only [Tryz.ntmps63, List.size_toArray, List.length_cons, List.length_nil, Nat.reduceAdd, Nat.reduceSub, Array.replicate_succ, Array.replicate_zero, List.push_toArray, List.append_toArray, List.nil_append, List.cons_append]
  go_wp2
  have hb1 := kept_new w (.cells #[.slice a n c, .int .i64 win] 24)
  have hb2 := kept_new (w.alloc (.cells #[.slice a n c, .int .i64 win] 24)) (.cells #[.slice ar nr cr] 28)
  have hpt := (PtBox.new w (.slice a n c) win).later hb2
  have hbx := Boxed.new (w.alloc (.cells #[.slice a n c, .int .i64 win] 24)) 28 (.slice ar nr cr)
  rw [World.size_alloc] at hbx
  have hbb := kept_trans hb1 hb2
  have hm := hM.out _ hbb
  refine wp_scope_jumps 0 (fun a' W => IsJ w (m && R) a' W) (fun _ _ => 0) rfl ?_ ?_
  · cases m with
    | false =>
      replace hbb := Lib.hid hbb
      have c0 := hpt.c0
      have c1 := hpt.c1
      clear hpt hbx hb1 hb2
      go_wp2_with ((with_reducible refine hm.mono ?_); rintro e w5 ⟨rfl, hb5⟩)
      refine wp_goto ?_
      exact ⟨rfl, rfl, kept_trans hbb.out hb5, .inl rfl, _, _, _, _, _, _, _, _, _, _, _, _, _, _, _, _, _, _, _, _, _, _, _, _, _, _, _, _, _, _, _, _, _, _, _, _, _, _, _, _, _, rfl⟩
    | true =>
      have hG := may_good hmm
      have c0 := hpt.c0
      have c1 := hpt.c1
      go_upto_region 2 with ((with_reducible refine hm.mono ?_); rintro e w6 ⟨rfl, hb5⟩)
      have hB6 := kept_trans hbb hb5
      replace hpt := hpt.later hb5
      replace hbx := boxed_later hbx hb5
      clear hb1 hb2 hbb hm hb5 hM c0 c1
      have hp := hP.out _ hB6
      have d0 := hpt.c0
      have d1 := hpt.c1
      clear hP
      replace hp := Lib.hid hp
      replace hB6 := Lib.hid hB6
      go_wp2_with (first
        | ((with_reducible refine hp.out.mono ?_); rintro e w7 ⟨vp, rfl, hown, hb7⟩; obtain ⟨ap, cp, rfl, hcp⟩ := cells_of_row hown; replace hown := Lib.hid hown; replace hb7 := Lib.hid hb7)
        | ((with_reducible refine (values_any _ _ _ _).mono ?_); rintro e w8 ⟨rfl, rfl⟩))
      have hxs : posP (L.map (·.1)) = (posS (L.map (·.1)) 0).map (fun x => (x.1 : Int)) := (posS_fst _ 0).symm
      obtain ⟨xs, hxe⟩ : ∃ xs, posP (L.map (·.1)) = xs := ⟨_, rfl⟩
      rw [hxe] at hxs hown hcp ⊢
      obtain ⟨np, hnp⟩ : ∃ np, xs.length = np := ⟨_, rfl⟩
      rw [hnp] at hown ⊢
      have hnp4 : np ≤ 4 := by rw [← hnp, hxs, List.length_map]; exact hG.few
      have hk8 := kept_new w7 (.cells #[.slice ap np cp] 28)
      have hb68 := kept_trans hb7.out hk8
      have hlt6 := (Array.getElem?_eq_some_iff.1 hbx).1
      have hI0 : IsI w a n c win (L.map (·.1)) row w7.heap.size ap np cp xs 0 (w7.alloc (.cells #[.slice ap np cp] 28)) :=
        ⟨row, ar, nr, cr, hnr, hcap, by omega, hcr, by simp, boxed_later hbx hb68, hpt.later hb68, heap_alloc_new w7 _, Nat.lt_of_lt_of_le hlt6 hb7.out.size, row_base (row_later hown.out hk8) hB6.out.size, kept_trans hB6.out hb68⟩
      have hs8 : w7.heap.size < (w7.alloc (.cells #[.slice ap np cp] 28)).heap.size := by simp
      have hsw : w.heap.size ≤ w7.heap.size := Nat.le_trans hB6.out.size hb7.out.size
      clear hcp hown hb7 hk8 hb68 hp hB6 d0 d1 hbx hpt hxe hlt6
      refine (wpIn_wide (n := 9)).1 ?_
      generalize hV : w7.heap.size = V at *
      generalize w7.alloc (.cells #[.slice ap np cp] 28) = W8 at *
      have hss : ∀ (k : Nat) (x : Nat × Sp), (posS (L.map (·.1)) 0)[k]? = some x → ∃ sv, L[x.1]? = some (x.2, sv) := fun k x hx => by
        have h1 := (hG.at (List.mem_of_getElem? hx)).1
        rw [List.getElem?_map] at h1
        cases hL : L[x.1]? with
        | none => rw [hL] at h1; cases h1
        | some y => rw [hL] at h1; injection h1 with h1; exact ⟨y.2, by rw [← h1]⟩
      replace hss := Lib.hid hss
      replace hsv := Lib.hid h
      clear h
      refine wpIn_rangeFunc_rowT rfl (by omega) (gf := 57) (lb := #[ptr V]) rfl trivial (enters_of Tryz.func57 (by kernel_rfl) rfl)
        (val_tells 8 V (by omega) ap np cp xs (by omega) W8) (Below.refl _ _) (fun k hk => valRow_size hk)
        (IsI w a n c win (L.map (·.1)) row V ap np cp xs) (IsO w (L.map (·.1)) row) (IsI.own w a n c win _ _ _ _ _ _ _ _ (by omega)) (IsO.own w _ _ _ (by omega))
        (fun k W hI => by obtain ⟨q, aq, nq, cq, e1, e2, e3, e4, e5, h1, h3, h4, e6, h5, h6⟩ := hI; obtain ⟨a', c', e', hc'⟩ := cells_of_row h5; cases e'; exact ⟨h4, hnp, hc'⟩) (fun _ _ h => trivial)
        hI0
        (fun k a' W => ∃ x : Int, xs[k]? = some x ∧
          a' = { tmps := #[ptV (.slice a n c) win, .slice ar nr cr, ptr w.heap.size, ptr (w.heap.size + 1), .bool false, .int .i64 x, undef, ptV (.slice a n c) win, .bool true, .bool false, ptV (.slice a n c) win, .slice ap np cp, .func (.func 57) #[] #[ptr V], .int .i64 x, undef, undef, undef, undef, undef, undef, undef, undef, undef, undef, undef, undef, undef, undef, undef, undef, undef, undef, undef, undef, undef, undef, undef, undef, undef, undef, undef], defers := [] })
        (fun k a' => ownFrom_pure _ _)
        ?assign ?body ?done ?stop
      case assign =>
        intro l k W K hk hI hK
        rw [valRow_len] at hk
        obtain ⟨x, hx⟩ : ∃ x, xs[k]? = some x := ⟨_, List.getElem?_eq_getElem hk⟩
        rw [valRow_at hx]
        gi_wp2
        exact hK _ _ (KeepsFrom.refl _ _) (KeepsT.refl _ _) hI ⟨x, hx, rfl⟩
      case body =>
        rintro l k a' W hk ⟨q, aq, nq, cq, e1, e2, e3, e4, e5, h1, h3, h4, e6, h5, h6⟩ ⟨x, hx, rfl⟩
        rw [hxs, List.getElem?_map] at hx
        obtain ⟨y, hy⟩ : ∃ y, (posS (L.map (·.1)) 0)[k]? = some y := by
          cases hc : (posS (L.map (·.1)) 0)[k]? with
          | none => rw [hc] at hx; cases hx
          | some y => exact ⟨y, rfl⟩
        rw [hy] at hx
        obtain rfl : (y.1 : Int) = x := by simpa using hx
        obtain ⟨sv, hLy⟩ := hss.out k y hy
        obtain ⟨hg1, hg2, hg3, hg4, hg5⟩ := hG.at (List.mem_of_getElem? hy)
        obtain ⟨i, s⟩ := y
        dsimp only at hLy hg1 hg2 hg3 hg4 hg5 ⊢
        have c1 := h1.cell
        have f1 := h1.frozen
        have c0 := h3.c0
        have hi := (List.getElem?_eq_some_iff.1 hLy).1
        rw [hn] at hi
        have hii : (i : Int) < n := by omega
        obtain ⟨b, o, rfl, z0, z1, z2, z3, z4, z5, -⟩ := (hsv.out.later h6).step hn hLy
        have hld := Lib.hid (leading_any aq nq cq q i e1 (by omega) W (e4.later h6))
        have hlo := fun h => isL_low hy (q := q) h
        have hhi := fun h => isL_high hy (q := q) h
        have hne := fun h h' => isL_next hy (q := q) h h'
        have hlq := leadN_le q i
        have hat := leadN_at q i
        obtain ⟨t, ht⟩ : ∃ t, leadN q i = t := ⟨_, rfl⟩
        dsimp only at hlo hhi hne
        rw [ht] at hld hlo hhi hne hlq hat
        clear hI0 hss hsv hy hLy hx hk hg1 hg2 z0 z1 z4 z5 ht hxs
        gi_wp2_with fail
        refine ⟨trivial, ((callsIn_wide (n := 6)).2 hld.out).mono ?_⟩
        rintro e w3 ⟨rfl, rfl⟩
        by_cases hl : (t : Int) < s.min
        · have hf := Lib.hid (e5.trans (hlo hl))
          clear hlo hhi hne e4 e5 hat hld hR
          gi_wp2
          refine wpIn_goto ?_
          exact ⟨KeepsFrom.refl _ _, rfl, hf.out, h6⟩
        · by_cases hh : s.max < (t : Int)
          · have hf := Lib.hid (e5.trans (hhi hh))
            clear hlo hhi hne e4 e5 hat hld hR
            gi_wp2
            refine wpIn_goto ?_
            exact ⟨KeepsFrom.refl _ _, rfl, hf.out, h6⟩
          · have hnx := Lib.hid (e5.trans (hne (by omega) (by omega)))
            obtain ⟨bq, oq, rfl, -⟩ := ints_look e4 (hat 0 (by omega))
            have htq : (t : Int) ≤ nq := by omega
            have hcut : CellsAt w (some ⟨bq, oq + t, none⟩) (ints (q.drop t)) := by
              rcases e4 with e | ⟨b', o', e, hcl⟩
              · have : q = [] := by simpa [ints] using e
                subst this; left; simp [ints]
              · cases e
                refine .inr ⟨_, _, rfl, fun j u hu => ?_⟩
                have := hcl (t + j) u (by simpa [ints, List.getElem?_drop] using hu)
                rw [Nat.add_assoc]; exact this
            have hdl : (q.drop t).length = nq - t := by rw [List.length_drop, e1]
            have h1s : Boxed (W.setCell ⟨w.heap.size + 1, 0, none⟩ (.slice (some ⟨bq, oq + t, none⟩) (nq - t) (cq - t))) (w.heap.size + 1) 28 (.slice (some ⟨bq, oq + t, none⟩) (nq - t) (cq - t)) := h1.set _
            clear hlo hhi hne e4 e5 hat hld hR
            have hset := fun (u : Value) (aq' : Option Addr) (cq' : Nat) (e : u = .slice aq' (nq - t) cq') (hcc : nq - t ≤ cq') (hcl : CellsAt w aq' (ints (q.drop t))) =>
              (show KeepsFrom W8.heap.size W (W.setCell ⟨w.heap.size + 1, 0, none⟩ u) ∧ KeepsT 45 W (W.setCell ⟨w.heap.size + 1, 0, none⟩ u) ∧ IsI w (some ⟨b, o, none⟩) n c win (L.map (·.1)) row V ap np cp xs (k + 1) (W.setCell ⟨w.heap.size + 1, 0, none⟩ u) from
                ⟨(KeepsOthers.setCell _ _ _).from _, KeepsT.setCell _ h1 (by decide), q.drop t, aq', nq - t, cq', hdl, hcc, by omega, hcl, hnx.out, e ▸ h1.set _, block_far h3 (by omega) _ _, block_far h4 (by omega) _ _, e6,
                  row_kept h5 (grownBy_setCell_any _ (w.heap.size + 1) 0 _) (box_is h1 3 (by decide)), h6.setCell (p := ⟨w.heap.size + 1, 0, none⟩) (by simp) _⟩)
            replace hset := Lib.hid hset
            replace hcut := Lib.hid hcut
            have hnil : Hid (t = cq → CellsAt w (some ⟨bq, oq, none⟩) (ints (q.drop t))) := fun e => .inl (by rw [List.drop_eq_nil_of_le (by omega)]; rfl)
            clear h1s hnx h3 h4 h5 h6
            gi_wp2
            · exact hset.out _ _ _ rfl (by omega) (hnil.out (by omega))
            · exact hset.out _ _ _ rfl (by omega) hcut.out
      case done =>
        rintro D W hD ⟨q, aq, nq, cq, e1, e2, e3, e4, e5, h1, h3, h4, e6, h5, h6⟩ hK
        rw [valRow_len, hnp, List.drop_eq_nil_of_le (by rw [← hnp, hxs, List.length_map]; exact Nat.le_refl _)] at e5
        have c1 := h1.cell
        have hDw : w.heap.size ≤ D := by omega
        have hE : R = decide (nq = 0) := by
          rw [← hR, e5, isL, ← e1]
          cases q <;> simp
        clear e5 hR hss hsv hI0
        subst hE
        go_wp2
        rw [jump_ret]
        refine ⟨by simp, .inl ⟨_, _, rfl, run_takeDeferred hK, ?_⟩⟩
        refine ⟨_, results_tmp rfl _ _ _, ?_, h6.trans (belowK_b (w := w) (Nat.le_refl _) W D _ (.deferred none) hDw hK rfl rfl)⟩
        show Ending.returned (Value.bool _) = _
        congr 2
        cases nq <;> simp <;> omega
      case stop =>
        rintro D c W hD ⟨rfl, hf, hB⟩ hK
        refine wpIn_goto ?_
        exact ⟨rfl, by rw [← hR, hf]; rfl, hB, .inr ⟨D, rfl, hK, by omega⟩, _, _, _, _, _, _, _, _, _, _, _, _, _, _, _, _, _, _, _, _, _, _, _, _, _, _, _, _, _, _, _, _, _, _, _, _, _, _, _, _, _, rfl⟩
  · rintro ⟨t, d⟩ w2 ⟨hb, hB, hd, u0, u1, u2, u3, u4, u5, u6, u7, u8, u9, u10, u11, u12, u13, u14, u15, u16, u17, u18, u19, u20, u21, u22, u23, u24, u25, u26, u27, u28, u29, u30, u31, u32, u33, u34, u35, u36, u37, u38, u39, u40, he⟩
    dsimp only at he hd
    subst he
    go_wp2
    rw [jump_ret]
    rcases hd with rfl | ⟨D, rfl, hK, hD⟩
    · exact ⟨_, results_tmp rfl _ _ _, (by show Ending.returned (Value.bool false) = _; rw [hb]), hB⟩
    · refine ⟨by simp, .inl ⟨_, _, rfl, run_takeDeferred hK, ?_⟩⟩
      exact ⟨_, results_tmp rfl _ _ _, (by show Ending.returned (Value.bool false) = _; rw [hb]), hB.trans (belowK_b (w := w) (Nat.le_refl _) w2 D _ (.deferred none) hD hK rfl rfl)⟩
end Go.Proofs.YtccmnngeibpcmaaGreat.Tree
/- unroll.Guards. -/
namespace Go.Proofs.YtccmnngeibpcmaaGreat.Tree
open Go.ChangeShapes Go.WideShapes Go.ChangeAt Go.RowKit
set_option linter.unusedVariables false
set_option linter.unusedSimpArgs false
set_option maxRecDepth 100000
attribute [local go_sem] Oper.semAt_some
theorem leadN_take (r : List Int) (i : Int) : ∀ y ∈ r.take (leadN r i), y = i := by
  intro y hy
  obtain ⟨k, hk⟩ := List.getElem?_of_mem hy
  have hl := (List.getElem?_eq_some_iff.1 hk).1
  rw [List.length_take] at hl
  rw [List.getElem?_take_of_lt (by omega), leadN_at r i k (by omega)] at hk
  cases hk; rfl
theorem isL_mem {P : List (Nat × Sp)} {row : List Int} (h : isL P row = true) : ∀ y ∈ row, ∃ x ∈ P, y = (x.1 : Int) := by
  induction P generalizing row with
  | nil =>
    have : row = [] := by simpa [isL] using h
    subst this; intro y hy; cases hy
  | cons x P ih =>
    rw [isL] at h
    split at h
    · cases h
    · intro y hy
      rw [← List.take_append_drop (leadN row x.1) row] at hy
      rcases List.mem_append.1 hy with hy | hy
      · exact ⟨x, List.mem_cons_self, leadN_take _ _ y hy⟩
      · obtain ⟨z, hz, e⟩ := ih h y hy
        exact ⟨z, List.mem_cons_of_mem _ hz, e⟩
theorem isP_bd {ss : List Sp} {win : Int} {row : List Int} (h : isP ss win row = true) : ∀ y ∈ row, 0 ≤ y ∧ y < 6 := by
  unfold isP at h
  rw [Bool.and_eq_true] at h
  have hG := may_good h.1
  intro y hy
  obtain ⟨x, hx, rfl⟩ := isL_mem h.2 y hy
  have := (List.getElem?_eq_some_iff.1 (hG.at hx).1).1
  have := hG.len6
  omega
/-- What guards a place of a row. -/
def guardsL (ss : List Sp) (win : Int) (row : List Int) (place : Int) : List Int :=
  if 0 < place ∧ place < row.length ∧ isP ss win row = true then betL (row[(place - 1).toNat]?.getD 0) (row[place.toNat]?.getD 0) else []
set_option maxHeartbeats 2000000 in
theorem guards_V {v : Value} {L : List (Sp × Value)} (win : Int) (hc : UnOk L) (rv : Value) (row : List Int) (place : Int) (hrow : row.length ≤ 1000000) (w : World) (h : SpsL w v L) (hr : NmsC w rv row) :
    Calls Tryz.prog 47 #[ptV v win, rv, .int .i64 place] w fun e w' => ∃ u, e = .returned u ∧ w'.ownsRow w.heap.size 3 1 u (guardsL (L.map (·.1)) win row place).length (ints (guardsL (L.map (·.1)) win row place)) ∧ Below w.heap.size w w' := by
  have hb := kept_new w (.cells #[v, .int .i64 win] 24)
  have hI := Lib.hid (is_V win hc rv row hrow _ (h.later hb) (hr.later hb))
  have hpt := PtBox.new w v win
  have c0 := hpt.c0
  have c1 := hpt.c1
  obtain ⟨a, c, rfl⟩ := h.lit rfl
  obtain ⟨ar, cr, rfl, hcap, hcr⟩ := hr
  obtain ⟨Gd, hGd⟩ : ∃ Gd, guardsL (L.map (·.1)) win row place = Gd := ⟨_, rfl⟩
  rw [hGd]
  unfold guardsL at hGd
  obtain ⟨q, hq⟩ : ∃ q, isP (L.map (·.1)) win row = q := ⟨_, rfl⟩
  rw [hq] at hI hGd
  generalize hn : L.length = n at *
  generalize hnr : row.length = nr at *
  replace hb := Lib.hid hb
  clear h hc hpt hn
  go_enter Tryz.func47, Tryz.ntmps47
  go_wp2
  refine wp_scope_jumps 0 (fun a' W => Gd = [] ∧ Below w.heap.size w W ∧ ∃ (u0 u1 u2 u3 u4 u5 u6 u7 u8 u9 u10 u11 u12 u13 u14 u15 u16 u17 u18 u19 u20 u21 u22 u23 u24 u25 u26 u27 u28 u29 u30 : Value), a' = { tmps := #[u0, u1, u2, u3, u4, u5, u6, u7, u8, u9, u10, u11, u12, u13, u14, u15, u16, u17, u18, u19, u20, u21, u22, u23, u24, u25, u26, u27, u28, u29, u30], defers := [] }) (fun _ _ => 0) rfl ?_ ?_
  · by_cases h1 : place ≤ 0
    · have hno : Hid (Gd = []) := hGd.symm.trans (if_neg fun h => by omega)
      clear hGd
      go_wp2
      refine wp_goto ?_
      exact ⟨rfl, hno.out, hb.out, _, _, _, _, _, _, _, _, _, _, _, _, _, _, _, _, _, _, _, _, _, _, _, _, _, _, _, _, _, _, _, rfl⟩
    · by_cases h2 : (nr : Int) ≤ place
      · have hno : Hid (Gd = []) := hGd.symm.trans (if_neg fun h => by omega)
        clear hGd
        go_wp2
        refine wp_goto ?_
        exact ⟨rfl, hno.out, hb.out, _, _, _, _, _, _, _, _, _, _, _, _, _, _, _, _, _, _, _, _, _, _, _, _, _, _, _, _, _, _, _, rfl⟩
      · cases q with
        | false =>
          have hno : Hid (Gd = []) := hGd.symm.trans (if_neg fun h => by cases h.2.2)
          clear hGd
          go_wp2_with ((with_reducible refine hI.out.mono ?_); rintro e w2 ⟨rfl, hb2⟩)
          refine wp_goto ?_
          exact ⟨rfl, hno.out, kept_trans hb.out hb2, _, _, _, _, _, _, _, _, _, _, _, _, _, _, _, _, _, _, _, _, _, _, _, _, _, _, _, _, _, _, _, rfl⟩
        | true =>
          obtain ⟨k, rfl⟩ : ∃ k : Nat, place = (k : Int) + 1 := ⟨(place - 1).toNat, by omega⟩
          obtain ⟨x, hx⟩ : ∃ x, row[k]? = some x := ⟨_, List.getElem?_eq_getElem (by omega)⟩
          obtain ⟨y, hy⟩ : ∃ y, row[k + 1]? = some y := ⟨_, List.getElem?_eq_getElem (by omega)⟩
          have bx := isP_bd hq x (List.mem_of_getElem? hx)
          have b_y := isP_bd hq y (List.mem_of_getElem? hy)
          have hres : Hid (Gd = betL x y) := by
            show _ = _
            rw [← hGd, if_pos ⟨by omega, by omega, rfl⟩, show ((k : Int) + 1 - 1).toNat = k by omega, show ((k : Int) + 1).toNat = k + 1 by omega, hx, hy]
            rfl
          clear hGd
          have hBe := Lib.hid (fun W => between_any x y (by omega) (by omega) (by omega) W)
          go_upto_region 2 with ((with_reducible refine hI.out.mono ?_); rintro e w2 ⟨rfl, hb2⟩)
          have hB2 := kept_trans hb.out hb2
          have hD := below_drew w2
          obtain ⟨bb, oo, rfl, z1⟩ := ints_look (hcr.later (kept_trans hB2 hD)) hx
          obtain ⟨bb', oo', e', z2⟩ := ints_look (hcr.later (kept_trans hB2 hD)) hy
          cases e'
          have hw1 : IntKind.wrap .i64 ((k : Int) + 1 - 1) = k := by rw [IntKind.wrap_i64]; omega
          have hw0 : IntKind.wrap .i64 (k : Int) = k := by rw [IntKind.wrap_i64]; omega
          have g1 : (0 : Int) ≤ (k : Int) + 1 := by omega
          have g2 : (k : Int) + 1 < nr := by omega
          have g3 : (0 : Int) ≤ (k : Int) := by omega
          have g4 : (k : Int) < nr := by omega
          have g5 : ((k : Int) + 1).toNat = k + 1 := by omega
          replace hB2 := Lib.hid hB2
          clear hI hcr hx hy bx b_y hq c0 c1 hb2
          go_region_with ((with_reducible refine (hBe.out _).mono ?_); rintro e w4 ⟨u, rfl, ho, hb4⟩)
          all_goals go_wp2
          all_goals rw [jump_ret]
          all_goals go_ret
          all_goals exact ⟨u, rfl, by rw [hres.out]; exact row_base ho hB2.out.size, kept_trans (kept_trans hB2.out hD) hb4⟩
  · rintro ⟨t, d⟩ w2 ⟨hno, hB, u0, u1, u2, u3, u4, u5, u6, u7, u8, u9, u10, u11, u12, u13, u14, u15, u16, u17, u18, u19, u20, u21, u22, u23, u24, u25, u26, u27, u28, u29, u30, he⟩
    cases he
    go_wp2
    rw [jump_ret]
    go_ret
    exact ⟨_, rfl, by rw [hno]; exact World.ownsRow_nil _ _ _ _, hB⟩
end Go.Proofs.YtccmnngeibpcmaaGreat.Tree
/- The law's own two patterns. -/
namespace Go.Proofs.YtccmnngeibpcmaaGreat.Tree
open Go.ChangeShapes Go.WideShapes Go.ChangeAt Go.RowKit
set_option linter.unusedVariables false
set_option linter.unusedSimpArgs false
set_option maxRecDepth 100000
attribute [local go_sem] Oper.semAt_some
def uwA : Sp := ⟨false, 0, 1, 1, false, []⟩
def uwB : Sp := ⟨false, 1, 1, 2, false, []⟩
def uwC : Sp := ⟨true, 1, 1, 1, false, []⟩
def uwD : Sp := ⟨false, 2, 1, 1, false, []⟩
def uwE : Sp := ⟨true, 0, 1, 1, false, []⟩
abbrev twoL : List (Sp × Value) := [(uwA, nilS), (uwB, nilS)]
abbrev threeL : List (Sp × Value) := [(uwA, nilS), (uwC, nilS), (uwD, nilS), (uwE, nilS)]
theorem sps_lit (w : World) (cs : Array Value) (L : List (Sp × Value)) (h0 : spsCells L = cs.toList) (hL : L.length ≤ 100) (hv : ∀ x ∈ L, x.2 = nilS ∧ x.1.cs = []) :
    SpsL (w.alloc (.cells cs 45)) (.slice (some ⟨w.heap.size, 0, none⟩) L.length L.length) L := by
  have hsz : cs.size = L.length * 6 := by
    have h1 : (spsCells L).length = cs.size := by rw [h0]; simp
    rw [← h1]
    exact flat_len 6 (fun x : Sp × Value => [Value.bool x.1.neg, .int .i64 x.1.kind, .int .i64 x.1.min, .int .i64 x.1.max, .bool x.1.strict, x.2]) (fun _ => rfl) L
  have ho := World.ownsRow_lit (base := 0) (e := 45) (size := 6) w cs L.length (Nat.zero_le _) (by unfold maxLen; omega) hsz
  rw [← h0] at ho
  refine ⟨cells_of_row ho, fun x hx => ?_⟩
  obtain ⟨h1, h2⟩ := hv x hx
  rw [h1, h2]
  exact cps_nil _
theorem ok_two : UnOk twoL := ⟨⟨⟨by decide, by intro x hx; simp at hx; rcases hx with rfl | rfl <;> decide⟩, by intro x hx; simp at hx; rcases hx with rfl | rfl <;> decide, by intro x hx c hc; simp at hx; rcases hx with rfl | rfl <;> cases hc⟩, ⟨by decide, by intro x hx; simp at hx; rcases hx with rfl | rfl <;> decide⟩⟩
theorem ok_three : UnOk threeL := ⟨⟨⟨by decide, by intro x hx; simp at hx; rcases hx with rfl | rfl | rfl | rfl <;> decide⟩, by intro x hx; simp at hx; rcases hx with rfl | rfl | rfl | rfl <;> decide, by intro x hx c hc; simp at hx; rcases hx with rfl | rfl | rfl | rfl <;> cases hc⟩, ⟨by decide, by intro x hx; simp at hx; rcases hx with rfl | rfl | rfl | rfl <;> decide⟩⟩
theorem ok_nil : UnOk ([] : List (Sp × Value)) := ⟨ck_nil, ⟨by simp, by simp⟩⟩
theorem may_two : mayB [uwA, uwB] 5 = true := by kernel_rfl
theorem may_three : mayB [uwA, uwC, uwD, uwE] 5 = true := by kernel_rfl
theorem rows_two : rowsP [uwA, uwB] = [[0, 1], [0, 1, 1]] := by kernel_rfl
theorem rows_three : rowsP [uwA, uwC, uwD, uwE] = [[0, 2]] := by kernel_rfl
theorem guards1 : guardsL [uwA, uwC, uwD, uwE] 5 [0, 2] 1 = [1] := by kernel_rfl
theorem guards0 : guardsL [uwA, uwC, uwD, uwE] 5 [0, 2] 0 = [] := by kernel_rfl
theorem after3 : afterL [uwA, uwC, uwD, uwE] 5 = [3] := by kernel_rfl
theorem is_two : isP [uwA, uwB] 5 [0, 1, 1] = true := by kernel_rfl
theorem is_two2 : isP [uwA, uwB] 5 [0, 2] = false := by kernel_rfl
end Go.Proofs.YtccmnngeibpcmaaGreat.Tree
