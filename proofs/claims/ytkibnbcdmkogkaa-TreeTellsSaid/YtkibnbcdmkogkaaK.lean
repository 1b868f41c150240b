/-
  Contract of the document's own step.
-/
import Derived.Test.YtkibnbcdmkogkaaJ
namespace Go.Proofs.Ytkibnbcdmkogkaa
open Go.ChangeShapes Go.WideShapes Go.ChangeAt Go.RowKit
set_option linter.unusedVariables false
set_option linter.unusedSimpArgs false
attribute [local go_sem] Oper.semAt_some
theorem cps_lit {w : World} {v : Value} {cs : List Cp} {n : Nat} (h : CpsAt w v cs) (hn : cs.length = n) : ∃ a c, v = .slice a n c := by
  obtain ⟨a, c, e, -⟩ := h
  exact ⟨a, c, by rw [e, hn]⟩
theorem cpsL_at {w : World} {a : Option Addr} {n c : Nat} {cs : List Cp} (h : CpsAt w (.slice a n c) cs) (hn : cs.length = n) {i : Nat} {x : Cp} (hx : cs[i]? = some x) :
    ∃ b o, a = some ⟨b, o, none⟩ ∧ w.cell? ⟨b, o + i * 9, none⟩ = some (.int .u8 x.op) ∧ w.cell? ⟨b, o + i * 9 + 1, none⟩ = some (.int .u8 x.l.k) ∧ w.cell? ⟨b, o + i * 9 + 2, none⟩ = some (.int .i64 x.l.n) ∧
      w.cell? ⟨b, o + i * 9 + 3, none⟩ = some (.int .i64 x.l.s) ∧ w.cell? ⟨b, o + i * 9 + 4, none⟩ = some (.int .i64 x.l.r) ∧ w.cell? ⟨b, o + i * 9 + 5, none⟩ = some (.int .u8 x.r.k) ∧
      w.cell? ⟨b, o + i * 9 + 6, none⟩ = some (.int .i64 x.r.n) ∧ w.cell? ⟨b, o + i * 9 + 7, none⟩ = some (.int .i64 x.r.s) ∧ w.cell? ⟨b, o + i * 9 + 8, none⟩ = some (.int .i64 x.r.r) := by
  obtain ⟨a', c', e, hc⟩ := h
  rw [hn] at e
  obtain ⟨rfl, rfl⟩ := slice_eq e
  exact cps_cell hc hx
theorem drewN_kept (w : World) (m : Nat) : Below w.heap.size w (w.drewN m) := ⟨rfl, rfl, rfl, Nat.le_refl _, fun _ _ => rfl⟩
set_option maxRecDepth 100000 in
set_option maxHeartbeats 1000000 in
theorem refStep_any (v1 v2 : Value) (s u : Sp) (w : World) (hx1 : s.cs.length ≤ 140737488351232) (hy1 : u.cs.length ≤ 140737488351232) (h1 : CpsAt w v1 s.cs) (h2 : CpsAt w v2 u.cs) :
    Calls Try.prog 42 #[spV s v1, spV u v2] w fun e w' => e = .returned (.bool (decide (s = u))) ∧ Below w.heap.size w w' := by
  rw [sp_eq]
  obtain ⟨n, hn⟩ : ∃ n, s.cs.length = n := ⟨_, rfl⟩
  obtain ⟨m, hm⟩ : ∃ m, u.cs.length = m := ⟨_, rfl⟩
  obtain ⟨a1, c1, rfl⟩ := cps_lit h1 hn
  obtain ⟨a2, c2, rfl⟩ := cps_lit h2 hm
  rw [hn] at hx1
  rw [hm] at hy1
  replace hn := Lib.hid hn
  replace hm := Lib.hid hm
  have hb1 := SpBox.new w s (.slice a1 n c1)
  have hb2 := SpBox.new (w.alloc (.cells #[.bool s.neg, .int .i64 s.kind, .int .i64 s.min, .int .i64 s.max, .bool s.strict, .slice a1 n c1] 36)) u (.slice a2 m c2)
  replace hb1 := hb1.later (kept_new _ (.cells #[.bool u.neg, .int .i64 u.kind, .int .i64 u.min, .int .i64 u.max, .bool u.strict, .slice a2 m c2] 36))
  have hbel := below_two w (.cells #[.bool s.neg, .int .i64 s.kind, .int .i64 s.min, .int .i64 s.max, .bool s.strict, .slice a1 n c1] 36) (.cells #[.bool u.neg, .int .i64 u.kind, .int .i64 u.min, .int .i64 u.max, .bool u.strict, .slice a2 m c2] 36)
  rw [World.size_alloc] at hb2
  replace h1 := Lib.hid (h1.later hbel)
  replace h2 := Lib.hid (h2.later hbel)
  replace hb1 := Lib.hid hb1
  replace hb2 := Lib.hid hb2
  replace hbel := Lib.hid hbel
  obtain ⟨R, hR⟩ : ∃ R, decide (s.cs = u.cs) = R := ⟨_, rfl⟩
  rw [hR]
  replace hR := Lib.hid hR
  obtain ⟨neg, kind, mi, ma, strict, cs⟩ := s
  obtain ⟨neg', kind', mi', ma', strict', cs'⟩ := u
  dsimp only at *
  by_cases e0 : neg = neg'
  case neg =>
    have hr : ((neg == neg') && (kind == kind') && (mi == mi') && (ma == ma') && (strict == strict') && R) = false := by simp [e0]
    rw [hr]
    cases neg <;> cases neg' <;> first | exact absurd rfl e0 | skip
    all_goals (clear hr e0; go_enter Try.func42, Try.ntmps42; go_wp2_with fail; go_ret; exact ⟨rfl, below_two _ _ _⟩)
  subst e0
  by_cases e1 : kind = kind'
  case neg =>
    have hr : ((neg == neg) && (kind == kind') && (mi == mi') && (ma == ma') && (strict == strict') && R) = false := by simp [e1]
    rw [hr]
    go_enter Try.func42, Try.ntmps42; go_wp2_with fail; go_ret; exact ⟨rfl, below_two _ _ _⟩
  subst e1
  by_cases e2 : mi = mi'
  case neg =>
    have hr : ((neg == neg) && (kind == kind) && (mi == mi') && (ma == ma') && (strict == strict') && R) = false := by simp [e2]
    rw [hr]
    go_enter Try.func42, Try.ntmps42; go_wp2_with fail; go_ret; exact ⟨rfl, below_two _ _ _⟩
  subst e2
  by_cases e3 : ma = ma'
  case neg =>
    have hr : ((neg == neg) && (kind == kind) && (mi == mi) && (ma == ma') && (strict == strict') && R) = false := by simp [e3]
    rw [hr]
    go_enter Try.func42, Try.ntmps42; go_wp2_with fail; go_ret; exact ⟨rfl, below_two _ _ _⟩
  subst e3
  by_cases e4 : strict = strict'
  case neg =>
    have hr : ((neg == neg) && (kind == kind) && (mi == mi) && (ma == ma) && (strict == strict') && R) = false := by simp [e4]
    rw [hr]
    cases strict <;> cases strict' <;> first | exact absurd rfl e4 | skip
    all_goals (clear hr e4; go_enter Try.func42, Try.ntmps42; go_wp2_with fail; go_ret; exact ⟨rfl, below_two _ _ _⟩)
  subst e4
  have hr : ((neg == neg) && (kind == kind) && (mi == mi) && (ma == ma) && (strict == strict) && R) = R := by simp
  rw [hr]
  clear hr
  by_cases hnm : n = m
  · subst hnm
    go_enter Try.func42, Try.ntmps42
    go_wp2_with fail
    have hd := Lib.hid (fun m => kept_trans hbel.out (drewN_kept _ m))
    have hd2 := Lib.hid (fun m k => kept_trans (kept_trans hbel.out (drewN_kept _ m)) (drewN_kept _ k))
    generalize hS : w.heap.size = S at *
    replace hS := Lib.hid hS
    generalize (w.alloc (.cells #[.bool neg, .int .i64 kind, .int .i64 mi, .int .i64 ma, .bool strict, .slice a1 n c1] 36)).alloc (.cells #[.bool neg, .int .i64 kind, .int .i64 mi, .int .i64 ma, .bool strict, .slice a2 n c2] 36) = w0 at *
    go_loopw [5] (fun t wr => ∃ i : Nat, i ≤ n ∧ t = .int .i64 i ∧ (∃ m, wr = w0.drewN m) ∧ Hid (∀ j, j < i → cs[j]? = cs'[j]?)) (fun t _ => n - (intOf t).toNat)
    case atStart => exact ⟨0, Nat.zero_le _, rfl, ⟨0, rfl⟩, fun j hj => by omega⟩
    case round =>
      obtain ⟨i, hi, rfl, ⟨m, rfl⟩, hall⟩ := hrel
      obtain ⟨-, -, -, -, -, s5⟩ := hb1.out.cells
      obtain ⟨-, -, -, -, -, t5⟩ := hb2.out.cells
      by_cases hlt : i < n
      · obtain ⟨x, hx⟩ : ∃ x, cs[i]? = some x := ⟨_, List.getElem?_eq_getElem (by rw [hn.out]; exact hlt)⟩
        obtain ⟨y, hy⟩ : ∃ y, cs'[i]? = some y := ⟨_, List.getElem?_eq_getElem (by rw [hm.out]; exact hlt)⟩
        obtain ⟨p1, o1, rfl, x0, x1, x2, x3, x4, x5, x6, x7, x8⟩ := cpsL_at h1.out hn.out hx
        obtain ⟨p2, o2, rfl, y0, y1, y2, y3, y4, y5, y6, y7, y8⟩ := cpsL_at h2.out hm.out hy
        have hlti : (i : Int) < n := by omega
        have hne := Lib.hid (neq_at hx hy)
        have hat := Lib.hid (at_eq hx hy)
        clear hx hy
        have hC := fun w => cp_neq x y w
        obtain ⟨B, hB⟩ : ∃ B, decide (x = y) = B := ⟨_, rfl⟩
        rw [hB] at hC
        cases B
        · have hRf : R = false := by rw [← hR.out]; simp; exact hne.out (by simpa using hB)
          subst hRf
          clear hR hB
          go_wp2_with fail
          go_quiet (fail)
          go_wp2_with fail
          go_ret
          exact ⟨rfl, by rw [hS.out]; exact hd2.out _ _⟩
        · replace hat := Lib.hid (hat.out (by simpa using hB))
          clear hB
          go_wp2_with fail
          go_quiet (fail)
          go_wp2_with fail
          exact ⟨⟨i + 1, by omega, by go_num, ⟨m + nq, by simp [World.drewN, Nat.add_assoc]⟩, all_succ hall.out hat.out⟩, by simp [intOf]; omega⟩
      · have hRt : R = true := by rw [← hR.out]; simp; exact eq_all hn.out hm.out (i := i) (by omega) hall.out
        subst hRt
        clear hR
        have hlti : ¬ (i : Int) < n := by omega
        go_wp2_with fail
        go_ret
        exact ⟨rfl, by rw [hS.out]; exact hd.out _⟩
  · have hRf : R = false := by rw [← hR.out]; simp; intro e; exact hnm (hn.out.symm.trans ((congrArg List.length e).trans hm.out))
    subst hRf
    clear hR
    have hnmi : ¬ (n : Int) = m := by omega
    go_enter Try.func42, Try.ntmps42
    go_wp2_with fail
    go_ret
    exact ⟨rfl, below_two _ _ _⟩
end Go.Proofs.Ytkibnbcdmkogkaa
