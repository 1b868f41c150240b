/-
  Contracts of the document's own Right, Same, Of, Mark at records that may be and at records that tell the same; conditions: the bounds that are named.
-/
import Derived.Test.YtepbjjddpfejnaaN
namespace Go.Proofs.Ytepbjjddpfejnaa
open Go.ChangeShapes Go.WideShapes Go.ChangeAt Go.RowKit
set_option linter.unusedVariables false
set_option linter.unusedSimpArgs false
/-- The document's own Right finds the point one that may be. -/
def RefPtOk (p q : Nat) : Prop := ∀ w, Calls Try.prog 43 #[.complex .f64 p q] w fun e w' => e = .returned (.bool true) ∧ w = w'
theorem RefPtOk.at {p q : Nat} (h : RefPtOk p q) (w : World) : Calls Try.prog 43 #[.complex .f64 p q] w fun e w' => e = .returned (.bool true) ∧ w = w' := h w
set_option maxRecDepth 100000 in
set_option maxHeartbeats 1000000 in
theorem refEvent_yes (ts seq ek : Int) (p q : Nat) (t0 : 0 ≤ ts) (t1 : ts ≤ 1099511627776) (s0 : 0 ≤ seq) (s1 : seq ≤ 1048576) (k0 : 0 ≤ ek) (k1 : ek < 6) (hp : RefPtOk p q) (w : World) :
    Calls Try.prog 33 #[EV ts 0 seq ek p q] w fun e w' => e = .returned (.bool true) ∧ Below w.heap.size w w' := by
  go_enter Try.func33, Try.ntmps33
  go_wp2_with fail
  (with_reducible refine (hp.at _).mono ?_)
  rintro e w1 ⟨rfl, rfl⟩
  go_wp2
  go_ret
  exact ⟨rfl, (Below.refl _ _).alloc (Nat.le_refl _) _⟩
set_option maxRecDepth 100000 in
set_option maxHeartbeats 2000000 in
theorem refRight_event (ts src seq ek : Int) (p q : Nat) (t0 : 0 ≤ ts) (t1 : ts ≤ 1099511627776) (r0 : 0 ≤ src) (r1 : src ≤ 255) (s0 : 0 ≤ seq) (s1 : seq ≤ 1048576) (k0 : 0 ≤ ek) (k1 : ek < 6) (hp : RefPtOk p q) (w : World) :
    Calls Try.prog 25 #[RV 1 ts src seq ek p q 0 0] w fun e w' => e = .returned (.bool true) ∧ Below w.heap.size w w' := by
  have h := Lib.hid (refEvent_yes ts seq ek p q t0 t1 s0 s1 k0 k1 hp)
  go_enter Try.func25, Try.ntmps25
  go_wp2_with fail
  (with_reducible refine (h.out _).mono ?_)
  rintro e w1 ⟨rfl, hb⟩
  go_wp2
  go_ret
  exact ⟨rfl, Below.trans (below_two _ _ _) (hb.mono (by simp; omega))⟩
set_option maxRecDepth 100000 in
set_option maxHeartbeats 2000000 in
theorem refRight_mark (s t : Int) (r0 : 0 ≤ s) (r1 : s ≤ 255) (t0 : 0 ≤ t) (t1 : t ≤ 1099511627776) (w : World) :
    Calls Try.prog 25 #[RV 2 0 0 0 0 0 0 s t] w fun e w' => e = .returned (.bool true) ∧ Below w.heap.size w w' := by
  go_enter Try.func25, Try.ntmps25
  go_wp2_with fail
  (with_reducible refine (refSame_zero _).mono ?_)
  rintro e w1 ⟨rfl, hb⟩
  have hc6 := bcell hb (b := w.heap.size) (o := 6) (v := .int .i64 s) (by simp) (by simp [go_sem])
  have hc7 := bcell hb (b := w.heap.size) (o := 7) (v := .int .i64 t) (by simp) (by simp [go_sem])
  go_wp2
  go_ret
  exact ⟨rfl, ((Below.refl _ _).alloc (Nat.le_refl _) _).trans (hb.mono (by simp))⟩
set_option maxRecDepth 100000 in
set_option maxHeartbeats 2000000 in
/-- Two records of nought for their events that tell the same. -/
theorem refSame_yes (k s t : Int) (w : World) :
    Calls Try.prog 14 #[RV k 0 0 0 0 0 0 s t, RV k 0 0 0 0 0 0 s t] w fun e w' => e = .returned (.bool true) ∧ Below w.heap.size w w' := by
  go_enter Try.func14, Try.ntmps14
  go_wp2_with fail
  (with_reducible refine (refSame_zero _).mono ?_)
  rintro e w1 ⟨rfl, hb⟩
  have hc6 := bcell hb (b := w.heap.size) (o := 6) (v := .int .i64 s) (by simp; omega) (by simp [go_sem])
  have hc7 := bcell hb (b := w.heap.size) (o := 7) (v := .int .i64 t) (by simp; omega) (by simp [go_sem])
  have hd6 := bcell hb (b := w.heap.size + 1) (o := 6) (v := .int .i64 s) (by simp) (by simp [go_sem])
  have hd7 := bcell hb (b := w.heap.size + 1) (o := 7) (v := .int .i64 t) (by simp) (by simp [go_sem])
  go_wp2
  go_ret
  exact ⟨rfl, Below.trans (below_two _ _ _) (hb.mono (by simp; omega))⟩
end Go.Proofs.Ytepbjjddpfejnaa
