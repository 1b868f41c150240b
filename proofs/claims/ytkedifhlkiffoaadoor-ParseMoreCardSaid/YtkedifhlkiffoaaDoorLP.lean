/-
  Contract of lex.All at any text of at most 2000 bytes, without what lies in memory; the ways of comparing lie as the program's text lays them: out of what the row lists; the door's own start.
-/
import Derived.Test.YtkedifhlkiffoaaDoorLO
import Derived.Test.YtkedifhlkiffoaaDoorTie
import Derived.Test.YtkedifhlkiffoaaDoorCards
import Derived.ProofKit
import Derived.LaidMore
import Derived.OpenShut
import Derived.Stop.Joined
import Derived.ShutString
import Derived.ChangeOld
import Derived.SevenTiedAt
import Derived.Deep.DeepCutAuto
namespace Go.Proofs.YtkedifhlkiffoaaDoor
open Go.ChangeShapes Go.WideShapes Go.ChangeAt Go.RowKit
set_option linter.unusedVariables false
set_option linter.unusedSimpArgs false
theorem lexAll_res (l : Bs) (w : World) (hl : l.length ≤ 2000) (ho : OpsAt w) :
    Calls Tryd.prog 38 #[S l] w fun e w' => ∃ v p n, e = .returned (.tuple #[v, .int .i64 p, .int .i64 n]) ∧ Below w.heap.size w w' ∧ (n = 0 ∧ (∀ x ∈ toks l, x.1.k ≠ 6) ∨ n = 70) := by
  refine (all_short l w hl ho).mono ?_
  rintro e w' (⟨hn, ⟨v, rfl, hr⟩, hb⟩ | ⟨k, t, p, h1, h2, rfl, hb⟩)
  · exact ⟨v, 0, 0, rfl, hb, .inl ⟨rfl, hn⟩⟩
  · exact ⟨_, _, _, rfl, hb, .inr rfl⟩
theorem own : ownKnob Tryd.prog.godebug = none := by kernel_rfl
theorem laidOut : laidOutB Tryd.prog = true := by kernel_rfl
theorem gOps : Tryd.prog.globalNamed "straggle/lex.ops" = some 3 := by kernel_rfl
theorem tOps : (Tryd.prog.globals[3]?).map (·.type) = some 98 := by kernel_rfl
abbrev laid1 : List (String × DataW Unit) := [("straggle/lex.ops", Rows.laid_straggle_lex_ops)]
theorem door_met (os : Os) (args : Array Value) : laidMetH Tryd.prog laid1 ((World.doorLaid Tryd.prog 400 os).forCall (fun _ _ => 0) ⟨#[], args, []⟩).memory :=
  laidMetH_of_parts3 (fuel := 8) (laidMet_of_run' 8 (by kernel_rfl) (by kernel_rfl)) (by kernel_rfl) (by kernel_rfl)
theorem ops_of_laid {W : World} (h : laidMetH Tryd.prog laid1 W) : OpsAt W := by
  rw [MakeChecks.laidMetH_plain _ _ _ (by kernel_rfl)] at h
  obtain ⟨ps, ⟨g0, t0, cs0, f0, p0, q0, hg0, ht0, hv0, hd0, _, _⟩, _, _⟩ := h
  obtain rfl := Option.some.inj (gOps.symm.trans hg0)
  obtain rfl := Option.some.inj (tOps.symm.trans ht0)
  obtain ⟨xs, m1, rfl, hx1, hlen, hn3, hel⟩ := DataW.trod_array Tryd.underlying98 hd0
  have c9 : Tryd.prog.cellsOf 9 = 1 := by kernel_rfl
  intro i hi
  have h0 := hel i hi
  obtain ⟨x, hx⟩ : ∃ x, xs[i]? = some x := ⟨_, List.getElem?_eq_getElem (by omega)⟩
  rw [hx, c9, Nat.mul_one] at h0
  obtain ⟨s, e1, e2, _⟩ := DataW.trod_string Tryd.underlying9 h0
  have hm : xs.map (fun x => x.1) = opL.map (fun b => DataW.lit (.string b)) := by
    have := (Prod.mk.inj hx1).1
    exact (DataW.agg.inj this).symm
  have hm1 := congrArg (fun z => z[i]?) hm
  simp only [List.getElem?_map, hx, Option.map_some, e2] at hm1
  obtain ⟨b, hb⟩ : ∃ b, opL[i]? = some b := ⟨_, List.getElem?_eq_getElem hi⟩
  rw [hb, Option.map_some] at hm1
  obtain rfl : s.data.toList = b := by simpa using hm1
  have hc := World.var?_cell hg0 hv0 i
  rw [hc, hb]
  have hg : cs0[i]? = some (.string s) := by
    have := congrArg (fun z => z[0]?) e1
    simpa using this
  rw [hg]
  rfl
end Go.Proofs.YtkedifhlkiffoaaDoor
