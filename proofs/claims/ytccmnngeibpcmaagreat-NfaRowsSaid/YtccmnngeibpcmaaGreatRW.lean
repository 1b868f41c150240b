/-
  Contract of tree.Right.
-/
import Derived.Test.YtccmnngeibpcmaaGreatRV
namespace Go.Proofs.YtccmnngeibpcmaaGreat.Tree
open Go.ChangeShapes Go.WideShapes Go.ChangeAt Go.RowKit
set_option linter.unusedVariables false
set_option linter.unusedSimpArgs false
attribute [local go_sem] Oper.semAt_some
/-- Ways of comparing are bytes. -/
def OpsOk (L : List (Sp × Value)) : Prop := ∀ x ∈ L, ∀ c ∈ x.1.cs, 0 ≤ c.op
set_option maxRecDepth 100000 in
set_option maxHeartbeats 1000000 in
theorem right_L (a : Option Addr) (n c : Nat) (win : Int) (L : List (Sp × Value)) (hS : Short L) (w : World) (hl : L.length = n) (h : SpsL w (.slice a n c) L) (ho : OpsOk L) :
    Calls Tryz.prog 54 #[ptV (.slice a n c) win] w fun e w' => e = .returned (.bool (rightP (L.map (·.1)) win)) ∧ Below w.heap.size w w' := by
  have hb := kept_new w (.cells #[.slice a n c, .int .i64 win] 24)
  have hp := PtBox.new w (.slice a n c) win
  have hin : PtIn w.heap.size a n c win L (w.alloc (.cells #[.slice a n c, .int .i64 win] 24)) := ⟨hp, hl, h.later hb⟩
  have c0 := hp.c0
  have c1 := hp.c1
  have hln : (L.map (·.1)).length = n := by simpa using hl
  clear hp h
  refine (callsIn_wide (n := 9)).1 ?_
  refine callsIn_of_wp_marks Tryz.func54 rfl trivial ?_ rfl
  rw [wpIn_wide]
  simp only [Tryz.ntmps54, List.size_toArray, List.length_cons, List.length_nil, Nat.reduceAdd, Nat.reduceSub, Array.replicate_succ, Array.replicate_zero, List.push_toArray, List.append_toArray, List.nil_append, List.cons_append]
  go_wp2
  obtain ⟨R, hR⟩ : ∃ R, rightP (L.map (·.1)) win = R := ⟨_, rfl⟩
  refine wp_scope_jumps 0 (fun a' W => R = false ∧ Below w.heap.size w W ∧ a'.defers = [] ∧ 2 < a'.tmps.size) (fun _ _ => 0) rfl ?_ ?_
  · by_cases h1 : 1 ≤ n
    · by_cases h26 : n ≤ 26
      · have hn0 : ((n : Int) == 0) = false := by simp; omega
        have hn26 : ¬ (26 : Int) < n := by omega
        have hnp : n ≤ 140737488351232 := by omega
        cases hw : nbr win with
        | false =>
          have hRf : R = false := by rw [← hR]; exact rightP_win hw
          have H1 := Lib.hid (fun w => up_nbr win false w hw)
          clear hR hw
          go_wp2_with ((with_reducible refine (H1.out _).mono ?_); rintro e w' ⟨rfl, rfl⟩)
          refine wp_goto ?_
          exact ⟨rfl, hRf, hb, rfl, by simp⟩
        | true =>
          have H1 := Lib.hid (fun w => up_nbr win true w hw)
          have hyes := Lib.hid (fun (hall : ∀ j s, j < n → (L.map (·.1))[j]? = some s → rightS s = true) => steps_yes (win := win) (i := n) (by omega) (by omega) hw (by omega) hall)
          clear hw
          replace hR := Lib.hid hR
          replace hb := Lib.hid hb
          replace hin := Lib.hid hin
          go_wp2_with ((with_reducible refine (H1.out _).mono ?_); rintro e w' ⟨rfl, rfl⟩)
          clear c0 c1 H1
          generalize (w.alloc (.cells #[.slice a n c, .int .i64 win] 24)) = w0 at *
          generalize hB : w.heap.size = B at *
          replace hb : Hid (Below w.heap.size w w0) := by rw [hB]; exact hb
          replace hB := Lib.hid hB
          go_loopw [24] (fun t wr => ∃ i : Nat, i ≤ n ∧ t = .int .i64 i ∧ Hid (Below w0.heap.size w0 wr) ∧ Hid (∀ j s, j < i → (L.map (·.1))[j]? = some s → rightS s = true)) (fun t _ => n - (intOf t).toNat)
          case atStart => exact ⟨0, Nat.zero_le _, rfl, Below.refl _ _, fun j s hj => by omega⟩
          case round =>
            obtain ⟨i, hi, rfl, hwr, hall⟩ := hrel
            by_cases hlt : i < n
            · have hlti : (i : Int) < n := by omega
              obtain ⟨⟨s, v⟩, hx⟩ := sps_i (L := L) (i := i) (by rw [hl]; exact hlt)
              obtain ⟨b, o, rfl, z0, z1, z2, z3, z4, z5, hv⟩ := (hin.out.later hwr.out).step hx
              have hsh := hS.2 _ (List.mem_of_getElem? hx)
              have hos := ho _ (List.mem_of_getElem? hx)
              dsimp only at hsh hos
              obtain ⟨m, hm⟩ : ∃ l, s.cs.length = l := ⟨_, rfl⟩
              obtain ⟨a3, c3, rfl⟩ := cps_lit hv hm
              have hsp := SpBox.new wr s (.slice a3 m c3)
              have hk1 := kept_new wr (.cells #[.bool s.neg, .int .i64 s.kind, .int .i64 s.min, .int .i64 s.max, .bool s.strict, .slice a3 m c3] 45)
              have hC := rightStep_any s a3 m c3 (wr.alloc (.cells #[.bool s.neg, .int .i64 s.kind, .int .i64 s.min, .int .i64 s.max, .bool s.strict, .slice a3 m c3] 45)) (by omega) hm (hv.later hk1) hos
              obtain ⟨q0, q1, q2, q3, q4, q5⟩ := hsp.cells
              have hsm := map_fst hx
              clear hsp hv hm hsh hos hx
              cases hok : rightS s with
              | false =>
                have hRf : R = false := by rw [← hR.out]; exact step_no hsm hok
                rw [hok] at hC
                replace hC := Lib.hid hC
                clear hok hsm
                go_wp2_with ((with_reducible refine hC.out.mono ?_); rintro e w6 ⟨rfl, hb6⟩)
                refine wp_goto ?_
                exact ⟨rfl, hRf, kept_trans hb.out (kept_trans hwr.out (kept_trans hk1 hb6)), rfl, by simp⟩
              | true =>
                rw [hok] at hC
                replace hC := Lib.hid hC
                have hall' : Hid (∀ j s, j < i + 1 → (L.map (·.1))[j]? = some s → rightS s = true) := fun j y hj hy => by
                  by_cases hji : j = i
                  · subst hji; rw [hsm] at hy; cases hy; exact hok
                  · exact hall.out j y (by omega) hy
                clear hok hsm
                go_wp2_with ((with_reducible refine hC.out.mono ?_); rintro e w6 ⟨rfl, hb6⟩)
                have hw6 : Hid (Below w0.heap.size w0 w6) := kept_trans hwr.out (kept_trans hk1 hb6)
                clear hb6 hk1 z0 z1 z2 z3 z4 z5 q0 q1 q2 q3 q4 q5 hC
                go_roundw
                case rel => exact ⟨i + 1, by omega, by go_num, hw6, hall'⟩
                case measure => simp [intOf]; omega
            · obtain rfl : i = n := by omega
              have hRt : R = true := by rw [← hR.out]; exact hyes.out hall.out
              have hbb : Below w.heap.size w wr := kept_trans hb.out hwr.out
              go_wp2
              rw [jump_ret]
              exact ⟨_, results_tmp rfl _ _ _, by rw [hR.out, hRt]; rfl, hbb⟩
      · have hRf : R = false := by rw [← hR]; exact rightP_len (.inr (by omega))
        have hn0 : ((n : Int) == 0) = false := by simp; omega
        have hn26 : (26 : Int) < n := by omega
        go_wp2
        refine wp_goto ?_
        exact ⟨rfl, hRf, hb, rfl, by simp⟩
    · have hRf : R = false := by rw [← hR]; exact rightP_len (.inl (by omega))
      obtain rfl : n = 0 := by omega
      go_wp2
      refine wp_goto ?_
      exact ⟨rfl, hRf, hb, rfl, by simp⟩
  · rintro a' W ⟨hr, hB, hd, hs⟩
    go_wp2
    rw [jump_ret]
    exact ⟨.bool false, by simp [results, Tryz.results54, go_sem, hs], by rw [hR, hr], hB⟩
end Go.Proofs.YtccmnngeibpcmaaGreat.Tree
