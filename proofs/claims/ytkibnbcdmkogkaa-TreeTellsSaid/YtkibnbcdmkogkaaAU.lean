/-
  Contracts of the document's own Names, Positive, with.
-/
import Derived.Test.YtkibnbcdmkogkaaAS
namespace Go.Proofs.Ytkibnbcdmkogkaa
open Go.ChangeShapes Go.WideShapes Go.ChangeAt Go.RowKit
set_option linter.unusedVariables false
set_option linter.unusedSimpArgs false
attribute [local go_sem] Oper.semAt_some
theorem row_lit (w W : World) (l : List Int) (hb : w.heap.size ≤ W.heap.size) (hl : l.length ≤ 1000) : (W.alloc (.cells (ints l).toArray 3)).ownsRow w.heap.size 3 1 (.slice (some ⟨W.heap.size, 0, none⟩) l.length l.length) l.length (ints l) := by
  have := World.ownsRow_lit (base := w.heap.size) (e := 3) (size := 1) W (ints l).toArray l.length hb (by unfold maxLen; omega) (by simp [ints])
  simpa using this
set_option maxRecDepth 100000 in
set_option maxHeartbeats 1000000 in
theorem refNames_any (t : Tm) (w : World) :
    Calls Try.prog 18 #[tmV t] w fun e w' => ∃ v, e = .returned v ∧ w'.ownsRow w.heap.size 3 1 v (namesT t).length (ints (namesT t)) ∧ Below w.heap.size w w' := by
  have hb := TmBox.new w t
  obtain ⟨z0, z1, z2, z3⟩ := hb.c
  have hk := kept_new w (.cells #[.int .u8 t.k, .int .i64 t.n, .int .i64 t.s, .int .i64 t.r] 26)
  have hs : w.heap.size ≤ (w.alloc (.cells #[.int .u8 t.k, .int .i64 t.n, .int .i64 t.s, .int .i64 t.r] 26)).heap.size := by simp
  generalize hW : (w.alloc (.cells #[.int .u8 t.k, .int .i64 t.n, .int .i64 t.s, .int .i64 t.r] 26)) = W at *
  have r2 := row_lit w W [t.s, t.r] hs (by simp)
  have r1 := row_lit w W [t.s] hs (by simp)
  have k2 := kept_alloc hk (.cells (ints [t.s, t.r]).toArray 3)
  have k1 := kept_alloc hk (.cells (ints [t.s]).toArray 3)
  replace r1 := Lib.hid r1
  replace r2 := Lib.hid r2
  by_cases h0 : t.k = 0
  · have hn : namesT t = [] := by unfold namesT; rw [if_pos h0]
    have e0 : (t.k == 0) = true := by simp [h0]
    rw [hn]
    clear h0 hn
    go_enter Try.func18, Try.ntmps18
    go_wp2_with fail
    go_ret
    exact ⟨_, rfl, World.ownsRow_nil _ _ _ _, hk⟩
  have e0 : (t.k == 0) = false := by simp [h0]
  by_cases h5 : t.k = 5
  · have hn : namesT t = [t.s, t.r] := by unfold namesT; rw [if_neg h0, if_pos (.inl h5)]
    have e5 : (t.k == 5) = true := by simp [h5]
    rw [hn]
    clear h0 hn h5
    go_enter Try.func18, Try.ntmps18
    go_wp2_with fail
    go_ret
    exact ⟨_, rfl, r2.out, k2⟩
  have e5 : (t.k == 5) = false := by simp [h5]
  by_cases h6 : t.k = 6
  · have hn : namesT t = [t.s, t.r] := by unfold namesT; rw [if_neg h0, if_pos (.inr h6)]
    have e6 : (t.k == 6) = true := by simp [h6]
    rw [hn]
    clear h0 hn h5 h6
    go_enter Try.func18, Try.ntmps18
    go_wp2_with fail
    go_ret
    exact ⟨_, rfl, r2.out, k2⟩
  have hn : namesT t = [t.s] := by unfold namesT; rw [if_neg h0, if_neg (by simp [h5, h6])]
  have e6 : (t.k == 6) = false := by simp [h6]
  rw [hn]
  clear h0 hn h5 h6
  go_enter Try.func18, Try.ntmps18
  go_wp2_with fail
  go_ret
  exact ⟨_, rfl, r1.out, k1⟩
theorem posF_snoc' (ss : List Sp) (s : Sp) (i : Nat) : posF (ss ++ [s]) i = posF ss i ++ (if s.neg then [] else [((i + ss.length : Nat) : Int)]) := by
  induction ss generalizing i with
  | nil => cases h : s.neg <;> simp [posF, h]
  | cons x r ih =>
    simp only [List.cons_append, posF, List.length_cons]
    rw [ih, show i + 1 + r.length = i + (r.length + 1) by omega]
    split <;> simp
theorem pos_take {ss : List Sp} {i : Nat} {s : Sp} (h : ss[i]? = some s) : posP (ss.take (i + 1)) = posP (ss.take i) ++ (if s.neg then [] else [(i : Int)]) := by
  have hl := (List.getElem?_eq_some_iff.1 h).1
  rw [List.take_add_one, h]
  unfold posP
  rw [show (some s).toList = [s] from rfl, posF_snoc', List.length_take, Nat.min_eq_left (by omega), Nat.zero_add]
theorem posF_len' (ss : List Sp) (i : Nat) : (posF ss i).length ≤ ss.length := by
  induction ss generalizing i with
  | nil => simp [posF]
  | cons s r ih =>
    have := ih (i + 1)
    simp only [posF, List.length_cons]
    split <;> simp <;> omega
/-- Behind i steps. -/
def RpIn (w : World) (L : List (Sp × Value)) (i : Nat) (v : Value) (W : World) : Prop :=
  W.ownsRow w.heap.size 3 1 v (posP ((L.map (·.1)).take i)).length (ints (posP ((L.map (·.1)).take i))) ∧ Below w.heap.size w W
set_option maxRecDepth 100000 in
set_option maxHeartbeats 1000000 in
theorem refPositive_L (a : Option Addr) (n c : Nat) (win : Int) (L : List (Sp × Value)) (hn100 : n ≤ 100000) (w : World) (hl : L.length = n) (h : SpsL w (.slice a n c) L) :
    Calls Try.prog 20 #[ptV (.slice a n c) win] w fun e w' => ∃ v, e = .returned v ∧ w'.ownsRow w.heap.size 3 1 v (posP (L.map (·.1))).length (ints (posP (L.map (·.1)))) ∧ Below w.heap.size w w' := by
  have hb := kept_new w (.cells #[.slice a n c, .int .i64 win] 24)
  have hp : PtIn w.heap.size a n c win L _ := ⟨PtBox.new w (.slice a n c) win, hl, h.later hb⟩
  have hR : ∀ W, RpIn W L 0 (.slice none 0 0) W := fun W => ⟨by simpa [posP, posF] using World.ownsRow_nil _ _ _ _, Below.refl _ _⟩
  go_enter Try.func20, Try.ntmps20
  go_wp2_with fail
  generalize w.alloc (.cells #[.slice a n c, .int .i64 win] 24) = W0 at *
  replace hp := Lib.hid hp
  replace hR := Lib.hid hR
  replace hl := Lib.hid hl
  obtain ⟨i0, hi, hz0, hz1, hz2⟩ := info_parts Try.info3
  replace hi := Lib.hid hi
  go_loopw [3, 4] (fun u t wt => ∃ i : Nat, i ≤ n ∧ t = .int .i64 i ∧ Hid (RpIn W0 L i u wt)) (fun _ t _ => n - (intOf t).toNat)
  case atStart => exact ⟨0, Nat.zero_le _, rfl, hR.out W0⟩
  case round =>
    clear hR
    obtain ⟨i, hi', rfl, hR⟩ := hrel
    have hpr := Lib.hid (hp.out.later hR.out.2)
    have k0 := hpr.out.1.c0
    by_cases hlt : i < n
    · have hlti : (i : Int) < n := by omega
      obtain ⟨⟨s, v⟩, hx⟩ := sps_i (L := L) (i := i) (by rw [hl.out]; exact hlt)
      obtain ⟨b, o, rfl, z0, z1, z2, z3, z4, z5, hcc⟩ := hpr.out.step hx
      have hpt := Lib.hid (pos_take (map_fst hx))
      obtain ⟨P, hP⟩ : ∃ P, posP ((L.map (·.1)).take i) = P := ⟨_, rfl⟩
      have hPl : P.length ≤ 100000 := by
        rw [← hP]
        have := posF_len' ((L.map (·.1)).take i) 0
        rw [List.length_take] at this
        unfold posP
        omega
      obtain ⟨hr, hBw⟩ := hR.out
      rw [hP] at hpt hr
      replace hcc := Lib.hid hcc
      clear hx z1 z2 z3 z4 z5 hP
      cases hneg : s.neg
      case true =>
        rw [hneg] at hpt z0
        replace hr := Lib.hid hr
        go_wp2_with fail
        refine ⟨⟨i + 1, by omega, by go_num, ?_⟩, by simp [intOf]; omega⟩
        show RpIn W0 L (i + 1) u3 wr
        unfold RpIn
        rw [hpt.out]
        simpa using And.intro hr.out hBw
      case false =>
        rw [hneg] at hpt z0
        have hb63 : P.length + 1 ≤ maxLen := by unfold maxLen; omega
        have hb8 : (P.length + 1) * 8 ≤ 140737488355328 := by omega
        have hBs := hBw.size
        go_wp2_with (at_builtin; refine wpList_append_cells rfl (.tmp 19) (.tmp 21) 32 rfl W0.heap.size 3 i0 _ 1 8 Try.underlying32 hi.out hz0 hz1 hz2 rfl (by decide) u3 P.length (ints P) rfl (World.ownsRow.alloc hr _) (some ⟨wr.heap.size, 0, none⟩) 1 1 [.int .i64 i] rfl rfl (cells_newA wr [.int .i64 i] 3) (by simp [Value.oneCell']) hb63 hb8 (by rw [World.size_alloc]; exact Nat.le_succ_of_le hBs) ?_; intro v' w1 hown' hgrow)
        have hB1 : Below W0.heap.size W0 w1 := Below.grown (hBw.trans ((kept_new wr _).mono hBs)) hgrow (by rw [World.size_alloc]; exact Nat.le_succ_of_le hBs) (fun j ej => (World.ownsRow.lt hr j ej).1)
        refine ⟨⟨i + 1, by omega, by go_num, ?_⟩, by simp [intOf]; omega⟩
        show RpIn W0 L (i + 1) v' w1
        unfold RpIn
        rw [hpt.out]
        refine ⟨?_, hB1⟩
        simpa using hown'
    · obtain rfl : i = n := by omega
      have hlti : ¬ (i : Int) < i := by omega
      obtain ⟨hr, hBw⟩ := hR.out
      rw [List.take_of_length_le (by rw [List.length_map, hl.out]; exact Nat.le_refl _)] at hr
      go_wp2_with fail
      go_ret
      exact ⟨_, rfl, row_base hr hb.size, kept_trans hb hBw⟩
end Go.Proofs.Ytkibnbcdmkogkaa
