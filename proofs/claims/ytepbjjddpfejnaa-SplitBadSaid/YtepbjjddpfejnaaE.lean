/-
  Contracts of wire's layout and of the function that it hands back: which places, of how many bytes, a record of each kind has; no condition.
-/
import Derived.Test.YtepbjjddpfejnaaC
import Derived.Test.YtepbjjddpfejnaaD
import Derived.RangeFuncCalls
import Derived.RangeFuncLeaves
import Derived.Shelf.Abstract
import Derived.Shelf.RegionOpen
import Derived.OwnWalkIn
import Derived.TacticsInMore
import Derived.LoopNIn
import Derived.LoopIn
import Derived.Maps.AppendAt
namespace Go.Proofs.Ytepbjjddpfejnaa
open Go.ChangeShapes Go.WideShapes Go.ChangeAt Go.RowKit
set_option linter.unusedVariables false
set_option linter.unusedSimpArgs false
attribute [local go_sem] Oper.semAt_some

/-- A place and how many bytes it has. -/
def pr (p b : Int) : Array Value := #[.int .i64 p, .int .i64 b]
def eventRow : List (Array Value) := [pr 0 1, pr 1 6, pr 2 1, pr 3 3, pr 4 1, pr 5 4, pr 6 4]
def markRow : List (Array Value) := [pr 0 1, pr 2 1, pr 1 6]
/-- What is known of yield at place k. -/
abbrev YK (n l : Nat) (J Jx : Nat → World → Prop) (k : Nat) (p b : Int) : Prop := ∀ W1, J k W1 → YieldAt Fence.wide (n - 1) Try.prog l #[.int .i64 p, .int .i64 b] W1 fun e W' =>
      (e = .returned (.bool true) ∧ J (k + 1) W') ∨ (False ∧ e = .returned (.bool false) ∧ Jx (k + 1) W')
set_option maxRecDepth 100000 in
set_option maxHeartbeats 2000000 in
theorem mark_tells (n B : Nat) (hn : 1 ≤ n) (w : World) (hB : Boxed w B 5 (.int .u8 2)) : TellsRow False Fence.wide n Try.prog 46 #[.pointer (some ⟨B, 0, none⟩)] markRow w := by
  intro l J Jx W hW hY h0
  have y0 : Hid (YK n l J Jx 0 0 1) := fun W1 => hY 0 (by decide) W1
  have y1 : Hid (YK n l J Jx 1 2 1) := fun W1 => hY 1 (by decide) W1
  have y2 : Hid (YK n l J Jx 2 1 6) := fun W1 => hY 2 (by decide) W1
  clear hY
  have hc : W.cell? ⟨B, 0, none⟩ = some (.int .u8 2) := (hW.cell (p := ⟨B, 0, none⟩) hB.lt).trans hB.cell
  refine callsIn_of_wp Try.func46 rfl trivial ?_ rfl
  simp only [Try.ntmps46, List.size_toArray, List.length_cons, List.length_nil, Nat.reduceAdd, Nat.reduceSub, Array.replicate_succ, Array.replicate_zero, List.push_toArray, List.append_toArray, List.nil_append, List.cons_append]
  obtain ⟨fn, tmps, assign, body, hy, hR⟩ := y0.out W h0
  gi_wp2
  refine hR.mono ?_
  clear hy hR hc y0
  rintro e W0 (⟨rfl, hJ0⟩ | ⟨hst, _⟩)
  · obtain ⟨fn, tmps, assign, body, hy, hR⟩ := y1.out W0 hJ0
    gi_wp2
    refine hR.mono ?_
    clear hy hR y1
    rintro e W1 (⟨rfl, hJ1⟩ | ⟨hst, _⟩)
    · obtain ⟨fn, tmps, assign, body, hy, hR⟩ := y2.out W1 hJ1
      gi_wp2
      refine hR.mono ?_
      clear hy hR y2
      rintro e W2 (⟨rfl, hJ2⟩ | ⟨hst, _⟩)
      · gi_wp2
        go_end0
        exact ⟨⟨_, rfl⟩, .inl hJ2⟩
      · exact hst.elim
    · exact hst.elim
  · exact hst.elim
set_option maxRecDepth 100000 in
set_option maxHeartbeats 2000000 in
theorem event_tells (n B : Nat) (hn : 1 ≤ n) (w : World) (hB : Boxed w B 5 (.int .u8 1)) : TellsRow False Fence.wide n Try.prog 46 #[.pointer (some ⟨B, 0, none⟩)] eventRow w := by
  intro l J Jx W hW hY h0
  have y0 : Hid (YK n l J Jx 0 0 1) := fun W1 => hY 0 (by decide) W1
  have y1 : Hid (YK n l J Jx 1 1 6) := fun W1 => hY 1 (by decide) W1
  have y2 : Hid (YK n l J Jx 2 2 1) := fun W1 => hY 2 (by decide) W1
  have y3 : Hid (YK n l J Jx 3 3 3) := fun W1 => hY 3 (by decide) W1
  have y4 : Hid (YK n l J Jx 4 4 1) := fun W1 => hY 4 (by decide) W1
  have y5 : Hid (YK n l J Jx 5 5 4) := fun W1 => hY 5 (by decide) W1
  have y6 : Hid (YK n l J Jx 6 6 4) := fun W1 => hY 6 (by decide) W1
  clear hY
  have hc : W.cell? ⟨B, 0, none⟩ = some (.int .u8 1) := (hW.cell (p := ⟨B, 0, none⟩) hB.lt).trans hB.cell
  refine callsIn_of_wp Try.func46 rfl trivial ?_ rfl
  simp only [Try.ntmps46, List.size_toArray, List.length_cons, List.length_nil, Nat.reduceAdd, Nat.reduceSub, Array.replicate_succ, Array.replicate_zero, List.push_toArray, List.append_toArray, List.nil_append, List.cons_append]
  obtain ⟨fn, tmps, assign, body, hy, hR⟩ := y0.out W h0
  gi_wp2
  refine hR.mono ?_
  clear hy hR hc y0
  rintro e W0 (⟨rfl, hJ0⟩ | ⟨hst, _⟩)
  · obtain ⟨fn, tmps, assign, body, hy, hR⟩ := y1.out W0 hJ0
    gi_wp2
    refine hR.mono ?_
    clear hy hR y1
    rintro e W1 (⟨rfl, hJ1⟩ | ⟨hst, _⟩)
    · obtain ⟨fn, tmps, assign, body, hy, hR⟩ := y2.out W1 hJ1
      gi_wp2
      refine hR.mono ?_
      clear hy hR y2
      rintro e W2 (⟨rfl, hJ2⟩ | ⟨hst, _⟩)
      · obtain ⟨fn, tmps, assign, body, hy, hR⟩ := y3.out W2 hJ2
        gi_wp2
        refine hR.mono ?_
        clear hy hR y3
        rintro e W3 (⟨rfl, hJ3⟩ | ⟨hst, _⟩)
        · obtain ⟨fn, tmps, assign, body, hy, hR⟩ := y4.out W3 hJ3
          gi_wp2
          refine hR.mono ?_
          clear hy hR y4
          rintro e W4 (⟨rfl, hJ4⟩ | ⟨hst, _⟩)
          · obtain ⟨fn, tmps, assign, body, hy, hR⟩ := y5.out W4 hJ4
            gi_wp2
            refine hR.mono ?_
            clear hy hR y5
            rintro e W5 (⟨rfl, hJ5⟩ | ⟨hst, _⟩)
            · obtain ⟨fn, tmps, assign, body, hy, hR⟩ := y6.out W5 hJ5
              gi_wp2
              refine hR.mono ?_
              clear hy hR y6
              rintro e W6 (⟨rfl, hJ6⟩ | ⟨hst, _⟩)
              · gi_wp2
                go_end0
                exact ⟨⟨_, rfl⟩, .inl hJ6⟩
              · exact hst.elim
            · exact hst.elim
          · exact hst.elim
        · exact hst.elim
      · exact hst.elim
    · exact hst.elim
  · exact hst.elim
set_option maxRecDepth 100000 in
set_option maxHeartbeats 1000000 in
theorem none_tells (n B : Nat) (hn : 1 ≤ n) (k : Int) (h1 : (k == 1) = false) (h2 : (k == 2) = false) (w : World) (hB : Boxed w B 5 (.int .u8 k)) : TellsRow False Fence.wide n Try.prog 46 #[.pointer (some ⟨B, 0, none⟩)] [] w := by
  intro l J Jx W hW hY h0
  clear hY
  have hc : W.cell? ⟨B, 0, none⟩ = some (.int .u8 k) := (hW.cell (p := ⟨B, 0, none⟩) hB.lt).trans hB.cell
  refine callsIn_of_wp Try.func46 rfl trivial ?_ rfl
  simp only [Try.ntmps46, List.size_toArray, List.length_cons, List.length_nil, Nat.reduceAdd, Nat.reduceSub, Array.replicate_succ, Array.replicate_zero, List.push_toArray, List.append_toArray, List.nil_append, List.cons_append]
  gi_wp2
  go_end0
  exact ⟨⟨_, rfl⟩, .inl h0⟩
set_option maxHeartbeats 400000 in
theorem layout_any (k : Int) (w : World) :
    Calls Try.prog 36 #[.int .u8 k] w fun e w' => e = .returned (.func (.func 46) #[] #[.pointer (some ⟨w.heap.size, 0, none⟩)]) ∧ w' = w.alloc (.cells #[.int .u8 k] 5) := by
  go_enter Try.func36, Try.ntmps36
  go_wp2
  go_ret
  exact ⟨rfl, rfl⟩
end Go.Proofs.Ytepbjjddpfejnaa
