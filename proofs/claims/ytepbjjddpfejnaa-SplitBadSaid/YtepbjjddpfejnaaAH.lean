/-
  Contract of the document's own Same at a record held against itself, whose point's parts are numbers; no other condition.
-/
import Derived.Test.YtepbjjddpfejnaaAD
import Derived.ChangeKeysEq
namespace Go.Proofs.Ytepbjjddpfejnaa
open Go.ChangeShapes Go.WideShapes Go.ChangeAt Go.RowKit
set_option linter.unusedVariables false
set_option linter.unusedSimpArgs false
theorem key_eql (a b c : Int) (w : World) : (binOp .eql 62 (.agg #[.int .i64 a, .int .i64 b, .int .i64 c]) (.agg #[.int .i64 a, .int .i64 b, .int .i64 c])).run Try.prog w = Result.ok (.bool true) w := by
  obtain ⟨i0, hi⟩ := Option.isSome_iff_exists.1 (show (Try.prog.info? 3).isSome = true by kernel_rfl)
  have hc : Try.prog.cellsOf 3 = 1 := by kernel_rfl
  have hp' : ∀ (d : Nat) (x : Int) (w : World), (Op.equalIn (d + 1) 3 (.int .i64 x) (.int .i64 x)).run Try.prog w = .ok true w := fun d x w => by
    simp only [Op.equalIn, Sem.run_bind, run_underlying Try.underlying3, Result.andThen_ok]
    simp
  have hp : ∀ (x : Int) (w : World), (Op.equalIn 9999 3 (.int .i64 x) (.int .i64 x)).run Try.prog w = .ok true w := hp' 9998
  simp only [binOp]
  simp only [Op.equal, Op.maxDepth, Sem.run_bind]
  rw [show (10000 : Nat) = 9999 + 1 from rfl, run_equalIn_array w 9999 _ _ Try.underlying62 hi, hc]
  have hr : List.range 3 = [0, 1, 2] := rfl
  rw [hr]
  have p0 : ∀ w, (part 3 #[.int .i64 a, .int .i64 b, .int .i64 c] (0 * 1)).run Try.prog w = .ok (.int .i64 a) w := fun w => by kernel_rfl
  have p1 : ∀ w, (part 3 #[.int .i64 a, .int .i64 b, .int .i64 c] (1 * 1)).run Try.prog w = .ok (.int .i64 b) w := fun w => by kernel_rfl
  have p2 : ∀ w, (part 3 #[.int .i64 a, .int .i64 b, .int .i64 c] (2 * 1)).run Try.prog w = .ok (.int .i64 c) w := fun w => by kernel_rfl
  simp [Op.eqItems, p0, p1, p2, hp]
set_option maxRecDepth 100000 in
set_option maxHeartbeats 3200000 in
theorem refEv_self (ts src seq ek : Int) (p q : Nat) (hp : FloatKind.f64.format.order p p = some .eq) (hq : FloatKind.f64.format.order q q = some .eq) (w : World) :
    Calls Try.prog 20 #[EV ts src seq ek p q, EV ts src seq ek p q] w fun e w' => e = .returned (.bool true) ∧ Below w.heap.size w w' := by
  have hs := Lib.hid (ref_same_yes hp hq)
  clear hp hq
  go_enter Try.func20, Try.ntmps20
  go_wp2
  obtain ⟨B, hB⟩ : ∃ B, w.heap.size = B := ⟨_, rfl⟩
  obtain ⟨w0, hw0⟩ : ∃ w0, (w.alloc (.cells #[.int .i64 ts, .int .i64 src, .int .i64 seq, .int .i64 ek, .complex .f64 p q] 40)).alloc (.cells #[.int .i64 ts, .int .i64 src, .int .i64 seq, .int .i64 ek, .complex .f64 p q] 40) = w0 := ⟨_, rfl⟩
  rw [hw0]
  have e : EvAt w0 B ts src seq ek p q ∧ EvAt w0 (B + 1) ts src seq ek p q ∧ Below B w w0 := by
    subst hw0 hB
    exact ⟨by simp [EvAt, go_sem], by simp [EvAt, go_sem], below_two _ _ _⟩
  rw [hB]
  clear hw0
  obtain ⟨⟨a0, a1, a2, a3, a4, a5⟩, ⟨c0, c1, c2, c3, c4, c5⟩, hbel⟩ := e
  have heq := key_eql ts src seq
  have HB := Lib.hid hB
  have hbd := hbel.drew
  clear hB
  go_region_held3 (fun w' => B + 1 < w'.heap.size ∧ w'.cell? ⟨B, 0, none⟩ = some (.int .i64 ts) ∧ w'.cell? ⟨B, 1, none⟩ = some (.int .i64 src) ∧ w'.cell? ⟨B, 2, none⟩ = some (.int .i64 seq) ∧ w'.cell? ⟨B, 3, none⟩ = some (.int .i64 ek) ∧ w'.cell? ⟨B, 4, none⟩ = some (.complex .f64 p q) ∧
      w'.cell? ⟨B + 1, 0, none⟩ = some (.int .i64 ts) ∧ w'.cell? ⟨B + 1, 1, none⟩ = some (.int .i64 src) ∧ w'.cell? ⟨B + 1, 2, none⟩ = some (.int .i64 seq) ∧ w'.cell? ⟨B + 1, 3, none⟩ = some (.int .i64 ek) ∧ w'.cell? ⟨B + 1, 4, none⟩ = some (.complex .f64 p q) ∧ Below B w w')
    (first | go_keep | (go_split_ands; exact ⟨beyond hb ‹_›, bcell hb (by omega) ‹_›, bcell hb (by omega) ‹_›, bcell hb (by omega) ‹_›, bcell hb (by omega) ‹_›, bcell hb (by omega) ‹_›, bcell hb (by omega) ‹_›, bcell hb (by omega) ‹_›, bcell hb (by omega) ‹_›, bcell hb (by omega) ‹_›, bcell hb (by omega) ‹_›, Below.trans ‹_› (hb.mono (by omega))⟩))
    (first | ((with_reducible refine (refKey_any _ _ _ _ _ _ _).mono ?_); rintro e w1 ⟨rfl, hb⟩) | ((with_reducible refine (hs.out _).mono ?_); rintro e w1 ⟨rfl, rfl⟩))
  go_split_ands
  have hfin : Below w.heap.size w w1 := by rw [HB.out]; assumption
  go_wp2
  go_ret
  exact ⟨rfl, hfin⟩
set_option maxRecDepth 100000 in
set_option maxHeartbeats 2000000 in
theorem refSame_self (r : Rc) (hp : FloatKind.f64.format.order r.p r.p = some .eq) (hq : FloatKind.f64.format.order r.q r.q = some .eq) (w : World) :
    Calls Try.prog 14 #[r.v, r.v] w fun e w' => e = .returned (.bool true) ∧ Below w.heap.size w w' := by
  have H := Lib.hid (refEv_self r.ts r.src r.seq r.ek r.p r.q hp hq)
  clear hp hq
  have h1 := RecAt.new w r.k r.ts r.src r.seq r.ek r.p r.q r.rs r.rt
  have h2 := RecAt.new (w.alloc (.cells #[.int .u8 r.k, .int .i64 r.ts, .int .i64 r.src, .int .i64 r.seq, .int .i64 r.ek, .complex .f64 r.p r.q, .int .i64 r.rs, .int .i64 r.rt] 42)) r.k r.ts r.src r.seq r.ek r.p r.q r.rs r.rt
  have h1' := h1.later ((Below.refl _ _).alloc (Nat.le_refl _) (.cells #[.int .u8 r.k, .int .i64 r.ts, .int .i64 r.src, .int .i64 r.seq, .int .i64 r.ek, .complex .f64 r.p r.q, .int .i64 r.rs, .int .i64 r.rt] 42))
  rw [World.size_alloc] at h2
  go_enter Try.func14, Try.ntmps14
  go_wp2_with fail
  (with_reducible refine (H.out _).mono ?_)
  rintro e w1 ⟨rfl, hb⟩
  have g1 := h1'.later hb
  have g2 := h2.later hb
  have c16 := g1.c6
  have c17 := g1.c7
  have c26 := g2.c6
  have c27 := g2.c7
  go_wp2
  go_ret
  exact ⟨rfl, Below.trans (below_two _ _ _) (hb.mono (by simp; omega))⟩
end Go.Proofs.Ytepbjjddpfejnaa
