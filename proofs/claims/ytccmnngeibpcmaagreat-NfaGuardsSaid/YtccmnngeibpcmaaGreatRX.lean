/-
  Rows of numbers as the document's own answer compares them: contract of Ints.
-/
import Derived.Test.YtccmnngeibpcmaaGreatRW
namespace Go.Proofs.YtccmnngeibpcmaaGreat.Tree
open Go.ChangeShapes Go.WideShapes Go.ChangeAt Go.RowKit
set_option linter.unusedVariables false
set_option linter.unusedSimpArgs false
attribute [local go_sem] Oper.semAt_some
/-- Numbers in memory. -/
def IntsAt (w : World) (v : Value) (l : List Int) : Prop := ∃ a c, v = .slice a l.length c ∧ CellsAt w a (ints l)
theorem IntsAt.later {w w' : World} {v : Value} {l : List Int} (h : IntsAt w v l) (hb : Below w.heap.size w w') : IntsAt w' v l := by
  obtain ⟨a, c, e, h⟩ := h; exact ⟨a, c, e, h.later hb⟩
theorem IntsAt.of_row {w : World} {base : Nat} {v : Value} {l : List Int} (h : w.ownsRow base 3 1 v l.length (ints l)) : IntsAt w v l := by
  rcases h.2 with ⟨rfl, h0⟩ | ⟨g, cap, cur, rfl, _, hg, _, _, _, ht⟩
  · have hl0 : l = [] := List.length_eq_zero_iff.1 h0
    subst hl0
    exact ⟨none, 0, rfl, .inl rfl⟩
  · refine ⟨_, _, rfl, .inr ⟨g, 0, rfl, fun j u hj => ?_⟩⟩
    have hjl : j < l.length := by have := (List.getElem?_eq_some_iff.1 hj).1; simpa using this
    rw [Nat.mul_one] at ht
    rw [← ht, List.getElem?_take_of_lt hjl] at hj
    simp only [World.cell?, hg, Nat.zero_add]
    simpa using hj
theorem IntsAt.lit {w : World} {v : Value} {l : List Int} {n : Nat} (h : IntsAt w v l) (hn : l.length = n) : ∃ a c, v = .slice a n c := by
  obtain ⟨a, c, e, -⟩ := h
  exact ⟨a, c, by rw [e, hn]⟩
theorem IntsAt.at {w : World} {a : Option Addr} {n c : Nat} {l : List Int} (h : IntsAt w (.slice a n c) l) (hn : l.length = n) {i : Nat} {x : Int} (hx : l[i]? = some x) : ∃ b o, a = some ⟨b, o, none⟩ ∧ w.cell? ⟨b, o + i, none⟩ = some (.int .i64 x) := by
  obtain ⟨a', c', e, h⟩ := h
  rw [hn] at e
  obtain ⟨rfl, rfl⟩ := slice_eq e
  have hm : (ints l)[i]? = some (.int .i64 x) := by rw [List.getElem?_map, hx]; rfl
  rcases h with h | ⟨b, o, rfl, h⟩
  · rw [h] at hm; simp at hm
  · exact ⟨b, o, rfl, h _ _ hm⟩
set_option maxRecDepth 100000 in
set_option maxHeartbeats 1000000 in
theorem ints_ac (a1 a2 : Option Addr) (n m c1 c2 : Nat) (l k : List Int) (R : Bool) (w : World) (hR : Hid (decide (l = k) = R)) (hn : Hid (l.length = n)) (hm : Hid (k.length = m)) (hs : n ≤ 140737488351232) (h1 : Hid (IntsAt w (.slice a1 n c1) l)) (h2 : Hid (IntsAt w (.slice a2 m c2) k)) :
    Calls Tryz.prog 14 #[.slice a1 n c1, .slice a2 m c2] w fun e w' => e = .returned (.bool R) ∧ Below w.heap.size w w' := by
  by_cases hnm : n = m
  · subst hnm
    go_enter Tryz.func14, Tryz.ntmps14
    go_wp2_with fail
    have hd := Lib.hid (fun m => drewN_kept w m)
    have hd2 := Lib.hid (fun m k => kept_trans (drewN_kept w m) (drewN_kept _ k))
    go_loopw [5] (fun t wr => ∃ i : Nat, i ≤ n ∧ t = .int .i64 i ∧ (∃ m, wr = w.drewN m) ∧ Hid (∀ j, j < i → l[j]? = k[j]?)) (fun t _ => n - (intOf t).toNat)
    case atStart => exact ⟨0, Nat.zero_le _, rfl, ⟨0, rfl⟩, fun j hj => by omega⟩
    case round =>
      obtain ⟨i, hi, rfl, ⟨m, rfl⟩, hall⟩ := hrel
      by_cases hlt : i < n
      · obtain ⟨x, hx⟩ : ∃ x, l[i]? = some x := ⟨_, List.getElem?_eq_getElem (by rw [hn.out]; exact hlt)⟩
        obtain ⟨y, hy⟩ : ∃ y, k[i]? = some y := ⟨_, List.getElem?_eq_getElem (by rw [hm.out]; exact hlt)⟩
        obtain ⟨p1, o1, rfl, x0⟩ := (h1.out.later (drewN_kept w m)).at hn.out hx
        obtain ⟨p2, o2, rfl, y0⟩ := (h2.out.later (drewN_kept w m)).at hm.out hy
        have x0' : w.cell? ⟨p1, o1 + i, none⟩ = some (.int .i64 x) := x0
        have y0' : w.cell? ⟨p2, o2 + i, none⟩ = some (.int .i64 y) := y0
        have hlti : (i : Int) < n := by omega
        have hne := Lib.hid (neq_at hx hy)
        have hat := Lib.hid (at_eq hx hy)
        clear hx hy
        by_cases hB : x = y
        · replace hat := Lib.hid (hat.out hB)
          subst hB
          go_wp2_with fail
          go_quiet (fail)
          go_wp2_with fail
          exact ⟨⟨i + 1, by omega, by go_num, ⟨m + nq, by simp [World.drewN, Nat.add_assoc]⟩, all_succ hall.out hat.out⟩, by simp [intOf]; omega⟩
        · have hRf : R = false := by rw [← hR.out]; simp; exact hne.out hB
          subst hRf
          clear hR
          have hBb : (x == y) = false := by simpa using hB
          go_wp2_with fail
          go_quiet (fail)
          go_wp2_with fail
          go_ret
          exact ⟨rfl, hd2.out _ _⟩
      · have hRt : R = true := by rw [← hR.out]; simp; exact eq_all hn.out hm.out (i := i) (by omega) hall.out
        subst hRt
        clear hR
        have hlti : ¬ (i : Int) < n := by omega
        go_wp2_with fail
        go_ret
        exact ⟨rfl, hd.out _⟩
  · have hRf : R = false := by rw [← hR.out]; simp; intro e; exact hnm (hn.out.symm.trans ((congrArg List.length e).trans hm.out))
    subst hRf
    clear hR
    have hnmi : ¬ (n : Int) = m := by omega
    have hb : ((n : Int) == m) = false := by simpa using hnmi
    go_enter Tryz.func14, Tryz.ntmps14
    go_wp2_with fail
    go_ret
    exact ⟨rfl, Below.refl _ _⟩
theorem ints_any {v u : Value} {l k : List Int} {w : World} (h1 : IntsAt w v l) (h2 : IntsAt w u k) (hs : l.length ≤ 140737488351232) :
    Calls Tryz.prog 14 #[v, u] w fun e w' => e = .returned (.bool (decide (l = k))) ∧ Below w.heap.size w w' := by
  obtain ⟨a1, c1, rfl⟩ := h1.lit rfl
  obtain ⟨a2, c2, rfl⟩ := h2.lit rfl
  exact ints_ac a1 a2 l.length k.length c1 c2 l k _ w rfl rfl rfl hs h1 h2
end Go.Proofs.YtccmnngeibpcmaaGreat.Tree
