/-
  Contract of wire's Put: what record's Right and bytesOf answer decide it; no other condition.
-/
import Derived.Test.YtepbjjddpfejnaaO
namespace Go.Proofs.Ytepbjjddpfejnaa
open Go.ChangeShapes Go.WideShapes Go.ChangeAt Go.RowKit
set_option linter.unusedVariables false
set_option linter.unusedSimpArgs false
/-- What Put hands back. -/
def PutDone (L : Nat) (bs : List Int) (w : World) (e : Ending) (w' : World) : Prop := ∃ g, e = .returned (.tuple #[.slice (some ⟨g, 0, none⟩) L L, .int .i64 0]) ∧ w'.ownsRow w.heap.size 5 1 (.slice (some ⟨g, 0, none⟩) L L) L (bs.map (Value.int .u8)) ∧ Below w.heap.size w w'
/-- What record.Right answers. -/
def RightIs (r : Value) (b : Bool) : Prop := ∀ w, Calls Try.prog 30 #[r] w fun e w' => e = .returned (.bool b) ∧ Below w.heap.size w w'
theorem RightIs.at {r : Value} {b : Bool} (h : RightIs r b) (w : World) : Calls Try.prog 30 #[r] w fun e w' => e = .returned (.bool b) ∧ Below w.heap.size w w' := h w
theorem owns_base {W : World} {base base' e size n : Nat} {v : Value} {xs : List Value} (h : W.ownsRow base e size v n xs) (hb : base' ≤ base) : W.ownsRow base' e size v n xs := by
  refine ⟨h.1, ?_⟩
  rcases h.2 with hn | ⟨g, cap, cur, hv, hbg, rest⟩
  · exact .inl hn
  · exact .inr ⟨g, cap, cur, hv, Nat.le_trans hb hbg, rest⟩
set_option maxRecDepth 100000 in
set_option maxHeartbeats 1000000 in
theorem put_wrong (k ts src seq ek : Int) (p q : Nat) (rs rt : Int) (h : RightIs (RV k ts src seq ek p q rs rt) false) (w : World) :
    Calls Try.prog 26 #[RV k ts src seq ek p q rs rt] w fun e w' => e = .returned (.tuple #[.slice none 0 0, .int .i64 2]) ∧ Below w.heap.size w w' := by
  go_enter Try.func26, Try.ntmps26
  go_wp2_with fail
  refine wp_scope_jumps 0 (fun a' w' => Below w.heap.size w w' ∧ a'.defers = [] ∧ ∃ s0 s1 s2 s3 s4 s5 s6 s7 s8, a'.tmps = #[s0, s1, s2, s3, s4, s5, s6, s7, s8]) (fun _ _ => 0) rfl ?_ ?_
  · go_wp2_with fail
    (with_reducible refine (h.at _).mono ?_)
    rintro r w1 ⟨rfl, hb⟩
    go_wp2
    go_step3
    exact ⟨rfl, ((Below.refl _ _).alloc (Nat.le_refl _) _).trans (hb.mono (by simp)), rfl, _, _, _, _, _, _, _, _, _, rfl⟩
  · rintro ⟨t, d⟩ w2 ⟨hb, rfl, s0, s1, s2, s3, s4, s5, s6, s7, s8, rfl⟩
    go_wp2
    rw [jump_ret]
    go_ret2
    exact ⟨rfl, hb⟩
set_option maxRecDepth 100000 in
set_option maxHeartbeats 1000000 in
theorem put_right (k ts src seq ek : Int) (p q : Nat) (rs rt : Int) (h : RightIs (RV k ts src seq ek p q rs rt) true) (L : Nat) (bs : List Int) (hB : ∀ w, Calls Try.prog 34 #[RV k ts src seq ek p q rs rt] w (PutIs L bs w)) (w : World) :
    Calls Try.prog 26 #[RV k ts src seq ek p q rs rt] w (PutDone L bs w) := by
  have HB := Lib.hid hB
  clear hB
  go_enter Try.func26, Try.ntmps26
  go_wp2_with fail
  refine wp_scope_jumps 0 (fun a' w' => False) (fun _ _ => 0) rfl ?_ ?_
  · go_wp2_with fail
    (with_reducible refine (h.at _).mono ?_)
    rintro r w1 ⟨rfl, hb⟩
    have hr := (RecAt.new w k ts src seq ek p q rs rt).later hb
    obtain ⟨hl, c0, c1, c2, c3, c4, c5, c6, c7⟩ := hr
    have hb1 : Below w.heap.size w w1 := ((Below.refl _ _).alloc (Nat.le_refl _) _).trans (hb.mono (by simp))
    clear hb
    go_wp2_with fail
    (with_reducible refine (HB.out _).mono ?_)
    rintro r w2 ⟨g, rfl, ho, hb2⟩
    have hfin := hb1.trans (hb2.mono hb1.size)
    have ho2 := owns_base ho hb1.size
    clear c0 c1 c2 c3 c4 c5 c6 c7 ho
    go_wp2
    rw [jump_ret]
    go_ret2
    exact ⟨g, rfl, ho2, hfin⟩
  · intro a' w' h; exact h.elim
end Go.Proofs.Ytepbjjddpfejnaa
