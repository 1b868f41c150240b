/-
  The positive steps, with their numbers: contracts of positiveOf, of its iterator, of tree.Positive.
-/
import Derived.Test.YtccmnngeibpcmaaGreatRQ
namespace Go.Proofs.YtccmnngeibpcmaaGreat.Tree
open Go.ChangeShapes Go.WideShapes Go.ChangeAt Go.RowKit
set_option linter.unusedVariables false
set_option linter.unusedSimpArgs false
attribute [local go_sem] Oper.semAt_some
/-- The positive steps with their numbers. -/
def posL : List (Sp × Value) → Nat → List (Nat × (Sp × Value))
  | [], _ => []
  | x :: r, i => if x.1.neg then posL r (i + 1) else (i, x) :: posL r (i + 1)
theorem posL_append (A B : List (Sp × Value)) (i : Nat) : posL (A ++ B) i = posL A i ++ posL B (i + A.length) := by
  induction A generalizing i with
  | nil => simp [posL]
  | cons x r ih =>
    rw [List.cons_append]
    simp only [posL, ih, List.length_cons]
    rw [show i + (r.length + 1) = i + 1 + r.length by omega]
    split <;> rfl
theorem posL_fst (L : List (Sp × Value)) (i : Nat) : (posL L i).map (fun x => (x.1 : Int)) = posF (L.map (·.1)) i := by
  induction L generalizing i with
  | nil => rfl
  | cons x r ih =>
    simp only [posL, posF, List.map_cons]
    split
    · exact ih _
    · rw [List.map_cons, ih]
theorem posL_sum (f : Sp → Int) (L : List (Sp × Value)) (i : Nat) : ((posL L i).map (fun x => f x.2.1)).sum = sumF (fun s => if s.neg then 0 else f s) (L.map (·.1)) := by
  unfold sumF
  induction L generalizing i with
  | nil => rfl
  | cons x r ih =>
    simp only [posL, List.map_cons, List.sum_cons]
    split
    · rename_i h; simp [h, ih]
    · rename_i h; simp [h, ih]
theorem posL_len (L : List (Sp × Value)) (i : Nat) : (posL L i).length ≤ L.length := by
  induction L generalizing i with
  | nil => simp [posL]
  | cons x r ih =>
    simp only [posL, List.length_cons]
    split
    · have := ih (i + 1); omega
    · have := ih (i + 1); simp; omega
def cntP (L : List (Sp × Value)) (j : Nat) : Nat := (posL (L.take j) 0).length
theorem cntP_zero (L : List (Sp × Value)) : cntP L 0 = 0 := by simp [cntP, posL]
theorem cntP_end (L : List (Sp × Value)) (n : Nat) (h : L.length = n) : cntP L n = (posL L 0).length := by rw [cntP, List.take_of_length_le (by omega)]
theorem cntP_neg {L : List (Sp × Value)} {j : Nat} {x : Sp × Value} (h : L[j]? = some x) (hn : x.1.neg = true) : cntP L (j + 1) = cntP L j := by
  have hl := (List.getElem?_eq_some_iff.1 h).1
  simp [cntP, List.take_add_one, h, posL_append, posL, hn]
theorem cntP_pos {L : List (Sp × Value)} {j : Nat} {x : Sp × Value} (h : L[j]? = some x) (hn : x.1.neg = false) : cntP L (j + 1) = cntP L j + 1 ∧ (posL L 0)[cntP L j]? = some (j, x) := by
  have hl := (List.getElem?_eq_some_iff.1 h).1
  refine ⟨by simp [cntP, List.take_add_one, h, posL_append, posL, hn], ?_⟩
  have e : L = L.take j ++ ([x] ++ L.drop (j + 1)) := by
    have h1 := List.take_append_drop j L
    have h2 : L.drop j = x :: L.drop (j + 1) := by
      rw [List.drop_eq_getElem_cons hl]
      have := (List.getElem?_eq_some_iff.1 h).2
      rw [this]
    conv => lhs; rw [← h1, h2]
    rfl
  unfold cntP
  generalize hA : L.take j = A at *
  have hAl : A.length = j := by rw [← hA, List.length_take]; omega
  conv => lhs; rw [e]
  rw [posL_append, posL_append, List.getElem?_append_right (Nat.le_refl _), Nat.sub_self]
  simp [posL, hn, hAl]
def posRow (L : List (Sp × Value)) : List (Array Value) := (posL L 0).map fun x => #[.int .i64 (x.1 : Int), spV x.2.1 x.2.2]
theorem posRow_len (L : List (Sp × Value)) : (posRow L).length = (posL L 0).length := by simp [posRow]
theorem posRow_at {L : List (Sp × Value)} {k j : Nat} {s : Sp} {v : Value} (h : (posL L 0)[k]? = some (j, (s, v))) : (posRow L)[k]?.getD #[] = #[.int .i64 (j : Int), spV s v] := by
  simp [posRow, h]
theorem posRow_size {L : List (Sp × Value)} {k : Nat} (h : k < (posRow L).length) : ((posRow L)[k]?.getD #[]).size = 2 := by
  simp [posRow] at h ⊢
  simp [h]
theorem posL_mem {L : List (Sp × Value)} {i : Nat} {y : Nat × (Sp × Value)} (h : y ∈ posL L i) : y.2 ∈ L := by
  induction L generalizing i with
  | nil => simp [posL] at h
  | cons x r ih =>
    simp only [posL] at h
    split at h
    · exact List.mem_cons_of_mem _ (ih h)
    · rcases List.mem_cons.1 h with h | h
      · subst h; exact List.mem_cons_self
      · exact List.mem_cons_of_mem _ (ih h)
theorem positiveOf_any (a : Option Addr) (n c : Nat) (win : Int) (w : World) :
    Calls Tryz.prog 58 #[ptV (.slice a n c) win] w fun e w' => e = .returned (.func (.func 85) #[] #[.pointer (some ⟨w.heap.size, 0, none⟩)]) ∧ w' = w.alloc (.cells #[.slice a n c, .int .i64 win] 24) := by
  go_enter Tryz.func58, Tryz.ntmps58
  go_wp2
  go_ret
  exact ⟨rfl, rfl⟩
set_option maxRecDepth 100000 in
set_option maxHeartbeats 1000000 in
theorem pos_tells (N B : Nat) (hN : 1 ≤ N) (a : Option Addr) (n c : Nat) (win : Int) (L : List (Sp × Value)) (hn : n ≤ 140737488351232) (w : World) :
    TellsRowT True Fence.wide N Tryz.prog 85 #[.pointer (some ⟨B, 0, none⟩)] (PtIn B a n c win L) 45 (posRow L) w := by
  intro l J Jx W hW hK hDr hY h0
  clear hW
  rw [posRow_len] at *
  have hlen : Hid (L.length = n) := (hK _ _ h0).2.1
  have hce := Lib.hid (cntP_end L n hlen.out)
  have hc0 := cntP_zero L
  have hcn := Lib.hid (fun j x h hn => cntP_neg (L := L) (j := j) (x := x) h hn)
  have hcp := Lib.hid (fun j x h hn => cntP_pos (L := L) (j := j) (x := x) h hn)
  replace hY := Lib.hid hY
  replace hDr := Lib.hid hDr
  replace hK := Lib.hid hK
  have k0 : W.cell? ⟨B, 0, none⟩ = some (.slice a n c) := (hK.out _ _ h0).1.c0
  refine callsIn_of_wp Tryz.func85 rfl trivial ?_ rfl
  simp only [Tryz.ntmps85, List.size_toArray, List.length_cons, List.length_nil, Nat.reduceAdd, Nat.reduceSub, Array.replicate_succ, Array.replicate_zero, List.push_toArray, List.append_toArray, List.nil_append, List.cons_append]
  gi_wp2_with fail
  clear k0
  gi_loopw [8] (fun u wr => ∃ j : Nat, j ≤ n ∧ u = .int .i64 j ∧ J (cntP L j) wr) (fun u _ => n - (intOf u).toNat)
  case atStart => exact ⟨0, Nat.zero_le _, rfl, by rw [hc0]; exact h0⟩
  case round =>
    clear h0 hc0
    obtain ⟨j, hj, rfl, hJs⟩ := hrel
    by_cases hlt : j < n
    · have hlti : (j : Int) < n := by omega
      obtain ⟨x, hx⟩ := sps_i (L := L) (i := j) (by rw [hlen.out]; exact hlt)
      obtain ⟨⟨s, v⟩, rfl⟩ : ∃ y, x = y := ⟨_, rfl⟩
      obtain ⟨b, o, rfl, z0, z1, z2, z3, z4, z5, a2, c2, hv, -⟩ := (hK.out _ _ hJs).step hx
      subst hv
      generalize hm : s.cs.length = m at *
      have hb := kept_new wr (.cells #[.bool s.neg, .int .i64 s.kind, .int .i64 s.min, .int .i64 s.max, .bool s.strict, .slice a2 m c2] 45)
      have hJ1 := hDr.out _ _ _ hJs hb
      clear hb hDr hJs hm
      have hsp := SpBox.new wr s (.slice a2 m c2)
      cases hneg : s.neg with
      | true =>
        have hk := hcn.out _ _ hx hneg
        rw [← hk] at hJ1
        rw [hneg] at hJ1 z0
        obtain ⟨q0, q1, q2, q3, q4, q5⟩ := hsp.cells
        rw [hneg] at q0 q1 q2 q3 q4 q5
        clear hx hk hY hsp
        gi_wp2
        refine ⟨fun f hf => (by cases hf), ?_⟩
        gi_wp2
        go_roundw
        case rel => exact ⟨j + 1, hlt, by go_num, hJ1⟩
        case measure => simp [intOf]; omega
      | false =>
        obtain ⟨hk, hat⟩ := hcp.out _ _ hx hneg
        have Y0 := hY.out (cntP L j) (by have := (List.getElem?_eq_some_iff.1 hat).1; exact this) _ hJ1
        rw [posRow_at hat] at Y0
        rw [← hk] at Y0
        unfold spV at Y0
        rw [hneg] at z0 Y0
        obtain ⟨q0, q1, q2, q3, q4, q5⟩ := hsp.cells
        rw [hneg] at q0 q1 q2 q3 q4 q5
        clear hx hk hY hsp hat hJ1
        obtain ⟨fn, tmps, assign, body, hy, hR⟩ := Y0
        gi_wp2
        refine hR.mono ?_
        rintro e W3 (⟨rfl, hkt, hJ3⟩ | ⟨-, rfl, hJx3⟩)
        · gi_wp2
          go_roundw
          case rel => exact ⟨j + 1, hlt, by go_num, hJ3⟩
          case measure => simp [intOf]; omega
        · gi_wp2
          refine bodyPost_ret (results_none rfl _ _ _) rfl ?_
          exact ⟨⟨_, rfl⟩, .inr ⟨_, hJx3⟩⟩
    · obtain rfl : j = n := by omega
      gi_wp2
      go_end0
      exact ⟨⟨_, rfl⟩, .inl (by rw [← hce.out]; exact hJs)⟩
theorem spsL_fst_len {L : List (Sp × Value)} {n : Nat} (h : L.length = n) : (posL L 0).length ≤ n := by have := posL_len L 0; omega
set_option maxRecDepth 100000 in
set_option maxHeartbeats 1000000 in
theorem positive_L (a : Option Addr) (n c : Nat) (win : Int) (L : List (Sp × Value)) (hn : n ≤ 1000000) (w : World) (hl : L.length = n) (h : SpsL w (.slice a n c) L) :
    Calls Tryz.prog 42 #[ptV (.slice a n c) win] w fun e w' => ∃ v, e = .returned v ∧ w'.ownsRow w.heap.size 3 1 v (posP (L.map (·.1))).length (ints (posP (L.map (·.1)))) ∧ Below w.heap.size w w' := by
  have hP : posP (L.map (·.1)) = (posL L 0).map (fun x => (x.1 : Int)) := (posL_fst L 0).symm
  rw [hP]
  clear hP
  refine (callsIn_wide (n := 9)).1 ?_
  refine callsIn_of_wp_marks Tryz.func42 rfl trivial ?_ rfl
  rw [wpIn_wide]
  simp only [Tryz.ntmps42, List.size_toArray, List.length_cons, List.length_nil, Nat.reduceAdd, Nat.reduceSub, Array.replicate_succ, Array.replicate_zero, List.push_toArray, List.append_toArray, List.nil_append, List.cons_append]
  go_wp2_with ((with_reducible refine (positiveOf_any _ _ _ _ _).mono ?_); rintro e w' ⟨rfl, rfl⟩)
  have hxl : ((posL L 0).map (fun x => (x.1 : Int))).length = (posL L 0).length := by simp
  have hI0 := NmIn.made w ((posL L 0).map (fun x => (x.1 : Int))) 24 24 #[.slice a n c, .int .i64 win] #[.slice a n c, .int .i64 win]
  have hle := spsL_fst_len hl
  refine (wpIn_wide (n := 9)).1 ?_
  generalize hW0 : (((w.alloc (.cells #[.slice a n c, .int .i64 win] 24)).alloc (.cells #[.slice none 0 0] 28)).alloc (.cells #[.slice a n c, .int .i64 win] 24)) = W0 at *
  have hs0 : W0.heap.size = w.heap.size + 3 := by rw [← hW0]; simp
  clear hW0
  obtain ⟨i0, hi, hz0, hz1, hz2⟩ := info_parts Tryz.info3
  replace hi := Lib.hid hi
  have hnp : n ≤ 140737488351232 := by omega
  refine wpIn_rangeFunc_rowT rfl (by omega) (gf := 85) (lb := #[.pointer (some ⟨w.heap.size + 2, 0, none⟩)]) rfl trivial (enters_of Tryz.func85 (by kernel_rfl) rfl)
    (pos_tells 8 (w.heap.size + 2) (by omega) a n c win L hnp W0) (Below.refl _ _) (fun k hk => posRow_size hk)
    (NmIn w ((posL L 0).map (fun x => (x.1 : Int))) 24 #[.slice a n c, .int .i64 win]) (fun _ _ => False) (NmIn.own w _ _ _ _ (by omega)) (fun _ _ _ _ hs _ _ => hs) (fun k W h' => ⟨h'.choose_spec.2.2.1, hl, h.later h'.choose_spec.2.2.2⟩) (fun _ _ h => trivial)
    hI0
    (fun k a' W => ∃ (x : Nat) (y : Value), ((posL L 0).map (fun x => (x.1 : Int)))[k]? = some (x : Int) ∧
      a' = { tmps := #[ptV (.slice a n c) win, .pointer (some ⟨w.heap.size, 0, none⟩), .slice none 0 0, .pointer (some ⟨w.heap.size + 1, 0, none⟩), .int .i64 x, ptV (.slice a n c) win, .func (.func 85) #[] #[.pointer (some ⟨w.heap.size + 2, 0, none⟩)], .int .i64 x, y, undef, undef, undef, undef, undef], defers := [] })
    (fun k a' => ownFrom_pure _ _)
    ?assign ?body ?done ?stop
  case assign =>
    intro l k W K hk hI hK
    rw [posRow_len] at hk
    obtain ⟨⟨x, s, v⟩, hx⟩ : ∃ x, (posL L 0)[k]? = some x := ⟨_, List.getElem?_eq_getElem hk⟩
    rw [posRow_at hx]
    gi_wp2
    exact hK _ _ (KeepsFrom.refl _ _) (KeepsT.refl _ _) hI ⟨x, _, by rw [List.getElem?_map, hx]; rfl, rfl⟩
  case body =>
    rintro l k a' W hk ⟨v, hv, hr, hc, hB⟩ ⟨x, y, hx, rfl⟩
    rw [posRow_len] at hk
    have hcv := hv.cell
    have H := NmIn.next (t := 45) hv hr hc hB hx (by decide) (by decide) (by decide) W0.heap.size
    clear hx h
    gi_wp2_with (gi_at_builtin; refine wpListIn_append_own _ rfl _ _ 28 rfl w.heap.size 3 i0 (.int .i64 0) 1 8 Tryz.underlying28 hi.out hz0 hz1 hz2 rfl (by decide) _ _ _ rfl (hr.alloc _) ⟨W.heap.size, 0, none⟩ 1 1 [.int .i64 x] rfl rfl (cell_one_new _ _ _) (by simp [Value.oneCell']) (by unfold maxLen; omega) (by omega) (by have := hB.size; simp; omega) ?_; intro v' w1 hown' hgrow _; have hvv := hv.appended (by decide) hr hB.size (by omega) hown' hgrow; have hcv1 := hvv.1.cell; have hfv1 := hvv.1.frozen; clear hvv; obtain ⟨g', cap', rfl⟩ := ownsRow_succ hown')
    exact H _ _ _ hown' hgrow
  case done =>
    rintro D W hD ⟨v, hv, hr, hc, hB⟩ hK
    rw [posRow_len, ← hxl, List.take_length] at hr
    have hcv := hv.cell
    have hDw : w.heap.size ≤ D := by omega
    go_wp2
    refine ⟨by simp, .inl ⟨_, _, rfl, run_takeDeferred hK, ?_⟩⟩
    exact ⟨_, results_tmp rfl _ _ _, v, rfl, ownsRow_putObj hr _ hK rfl, hB.trans (belowK_b (w := w) (Nat.le_refl _) W D _ (.deferred none) hDw hK rfl rfl)⟩
  case stop =>
    rintro D c W _ h _
    exact h.elim
end Go.Proofs.YtccmnngeibpcmaaGreat.Tree
