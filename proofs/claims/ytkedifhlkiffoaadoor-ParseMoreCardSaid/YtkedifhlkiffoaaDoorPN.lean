/-
  Contract of parse.Right.
-/
import Derived.Test.YtkedifhlkiffoaaDoorPM
namespace Go.Proofs.YtkedifhlkiffoaaDoor
open Go.ChangeShapes Go.WideShapes Go.ChangeAt Go.RowKit
open Tree (Tm Cp Sp)
set_option linter.unusedVariables false
set_option linter.unusedSimpArgs false
attribute [local go_sem] Oper.semAt_some
def okE {α β : Type} : Except α β → Bool | .ok _ => true | .error _ => false
theorem parseL_err {l : Bs} {p n : Int} (h : parseL l = .error (p, n)) : n ≠ 0 := by
  unfold parseL at h
  split at h
  · cases h; decide
  · split at h
    · cases h; decide
    · split at h
      · cases h
      · cases h; decide
set_option maxRecDepth 100000 in
set_option maxHeartbeats 2000000 in
theorem right_L (l : Bs) (w : World) (ho : OpsAt w) : Calls Tryd.prog 17 #[S l] w fun e w' => e = .returned (.bool (okE (parseL l))) ∧ Below w.heap.size w w' := by
  have hM := Lib.hid (parse_L l w ho)
  have hN := Lib.hid (fun p n (h : parseL l = .error (p, n)) => parseL_err h)
  obtain ⟨R, hR⟩ : ∃ R, parseL l = R := ⟨_, rfl⟩
  rw [hR] at hM ⊢
  simp only [hR] at hN
  clear hR
  go_enter Tryd.func17, Tryd.ntmps17
  go_wp2_with fail
  (with_reducible refine hM.out.mono ?_)
  rintro e w1 ⟨hb, hm⟩
  cases R with
  | ok p =>
    obtain ⟨v, L, rfl, hO, hL⟩ := hm
    obtain ⟨va, vc, rfl⟩ : ∃ a c, v = .slice a L.length c := by
      rcases hO.1.2 with ⟨rfl, hn⟩ | ⟨g, cap, cur, e1, r⟩
      · exact ⟨none, 0, by rw [hn]⟩
      · exact ⟨_, _, e1⟩
    go_wp2_with fail
    go_ret
    exact ⟨rfl, hb.alloc hb.size _⟩
  | error q =>
    obtain ⟨p, n⟩ := q
    have hn := hN.out p n rfl
    have hne : (n == 0) = false := by simpa using hn
    obtain rfl := hm
    go_wp2_with fail
    go_ret
    exact ⟨rfl, hb.alloc hb.size _⟩
end Go.Proofs.YtkedifhlkiffoaaDoor
