/-
  Contracts of record's and event's small functions: upTo, Key, Of, Mark, and when an event may be; no condition.
-/
import Derived.Test.YtepbjjddpfejnaaF
import Derived.Deep.RegionHeld3
import Derived.Laws.Tables
namespace Go.Proofs.Ytepbjjddpfejnaa
open Go.ChangeShapes Go.WideShapes Go.ChangeAt Go.RowKit
set_option linter.unusedVariables false
set_option linter.unusedSimpArgs false
/-- A complex number is stored as one cell. -/
@[go_sem] theorem run_store_complex {P : Program} {w : World} {a : Addr} {m : Mode} (k : FloatKind) (x y : Nat) : (store a (.complex k x y) m).run P w = stored P w a (.complex k x y) m := run_store P w a _ m rfl
/-- n is from 0 to m. -/
def upB (n m : Int) : Bool := decide (0 ≤ n) && decide (n ≤ m)
theorem ret_bool {a b : Bool} (h : a = b) : Ending.returned (.bool a) = .returned (.bool b) := by rw [h]
set_option maxHeartbeats 400000 in
theorem eUpTo_any (n m : Int) (w : World) : Calls Try.prog 60 #[.int .i64 n, .int .i64 m] w fun e w' => e = .returned (.bool (upB n m)) ∧ w = w' := by
  have hu : Hid (upB n m = (decide (0 ≤ n) && decide (n ≤ m))) := rfl
  by_cases h0 : 0 ≤ n
  · have hd : decide (0 ≤ n) = true := by simpa using h0
    by_cases h1 : n ≤ m
    · have he : decide (n ≤ m) = true := by simpa using h1
      go_enter Try.func60, Try.ntmps60
      go_wp2
      go_ret
      exact ⟨ret_bool (by rw [hu.out, hd, he]; rfl), rfl⟩
    · have he : decide (n ≤ m) = false := by simpa using h1
      go_enter Try.func60, Try.ntmps60
      go_wp2
      go_ret
      exact ⟨ret_bool (by rw [hu.out, hd, he]; rfl), rfl⟩
  · have hd : decide (0 ≤ n) = false := by simpa using h0
    go_enter Try.func60, Try.ntmps60
    go_wp2
    go_ret
    exact ⟨ret_bool (by rw [hu.out, hd]; rfl), rfl⟩
set_option maxHeartbeats 400000 in
theorem rUpTo_any (n m : Int) (w : World) : Calls Try.prog 57 #[.int .i64 n, .int .i64 m] w fun e w' => e = .returned (.bool (upB n m)) ∧ w = w' := by
  have hu : Hid (upB n m = (decide (0 ≤ n) && decide (n ≤ m))) := rfl
  by_cases h0 : 0 ≤ n
  · have hd : decide (0 ≤ n) = true := by simpa using h0
    by_cases h1 : n ≤ m
    · have he : decide (n ≤ m) = true := by simpa using h1
      go_enter Try.func57, Try.ntmps57
      go_wp2
      go_ret
      exact ⟨ret_bool (by rw [hu.out, hd, he]; rfl), rfl⟩
    · have he : decide (n ≤ m) = false := by simpa using h1
      go_enter Try.func57, Try.ntmps57
      go_wp2
      go_ret
      exact ⟨ret_bool (by rw [hu.out, hd, he]; rfl), rfl⟩
  · have hd : decide (0 ≤ n) = false := by simpa using h0
    go_enter Try.func57, Try.ntmps57
    go_wp2
    go_ret
    exact ⟨ret_bool (by rw [hu.out, hd]; rfl), rfl⟩
/-- An event's value. -/
abbrev EV (ts src seq ek : Int) (p q : Nat) : Value := .agg #[.int .i64 ts, .int .i64 src, .int .i64 seq, .int .i64 ek, .complex .f64 p q]
/-- A record's value. -/
abbrev RV (k ts src seq ek : Int) (p q : Nat) (rs rt : Int) : Value := .agg #[.int .u8 k, .int .i64 ts, .int .i64 src, .int .i64 seq, .int .i64 ek, .complex .f64 p q, .int .i64 rs, .int .i64 rt]
@[go_sem] theorem build_event (ts src seq ek : Int) (p q : Nat) (w : World) : (Instr.build 42 #[(0, .int .u8 1), (1, EV ts src seq ek p q)]).run Try.prog w = .ok (RV 1 ts src seq ek p q 0 0) w := run_build w 42 _ _ (by kernel_rfl)
@[go_sem] theorem build_mark (s t : Int) (w : World) : (Instr.build 42 #[(0, .int .u8 2), (2, .int .i64 s), (3, .int .i64 t)]).run Try.prog w = .ok (RV 2 0 0 0 0 0 0 s t) w := run_build w 42 _ _ (by kernel_rfl)
@[go_sem] theorem build_rec (w : World) : (Instr.build 42 #[]).run Try.prog w = .ok (RV 0 0 0 0 0 0 0 0 0) w := run_build w 42 _ _ (by kernel_rfl)
@[go_sem] theorem build_zero (w : World) : (Instr.build 40 #[]).run Try.prog w = .ok (EV 0 0 0 0 0 0) w := run_build w 40 _ _ (by kernel_rfl)
@[go_sem] theorem build_ev (ts src seq ek : Int) (p q : Nat) (w : World) : (Instr.build 40 #[(0, .int .i64 ts), (1, .int .i64 src), (2, .int .i64 seq), (3, .int .i64 ek), (4, .complex .f64 p q)]).run Try.prog w = .ok (EV ts src seq ek p q) w := run_build w 40 _ _ (by kernel_rfl)
@[go_sem] theorem build_told (b : Bool) (s t : Int) (w : World) : (Instr.build 76 #[(0, .bool b), (1, .int .i64 s), (2, .int .i64 t)]).run Try.prog w = .ok (.agg #[.bool b, .int .i64 s, .int .i64 t]) w := run_build w 76 _ _ (by kernel_rfl)
@[go_sem] theorem build_toldNot (w : World) : (Instr.build 76 #[(1, .int .i64 (-1)), (2, .int .i64 (-1))]).run Try.prog w = .ok (.agg #[.bool false, .int .i64 (-1), .int .i64 (-1)]) w := run_build w 76 _ _ (by kernel_rfl)
@[go_sem] theorem build_seven (a b c d e f g : Int) (w : World) : (Instr.build 68 #[(0, .int .i64 a), (1, .int .i64 b), (2, .int .i64 c), (3, .int .i64 d), (4, .int .i64 e), (5, .int .i64 f), (6, .int .i64 g)]).run Try.prog w = .ok (.agg #[.int .i64 a, .int .i64 b, .int .i64 c, .int .i64 d, .int .i64 e, .int .i64 f, .int .i64 g]) w := run_build w 68 _ _ (by kernel_rfl)
theorem below_two (w : World) (o o' : Obj) : Below w.heap.size w ((w.alloc o).alloc o') := ((Below.refl _ _).alloc (Nat.le_refl _) _).alloc (by simp) _
set_option maxHeartbeats 400000 in
theorem key_any (ts src seq ek : Int) (p q : Nat) (w : World) :
    Calls Try.prog 62 #[EV ts src seq ek p q] w fun e w' => e = .returned (.agg #[.int .i64 ts, .int .i64 src, .int .i64 seq]) ∧ Below w.heap.size w w' := by
  go_enter Try.func62, Try.ntmps62
  go_wp2
  refine bodyPost_ret (v := .agg #[.int .i64 ts, .int .i64 src, .int .i64 seq]) (by simp [results, Try.results62, go_sem]) rfl ⟨rfl, ?_⟩
  exact below_two _ _ _
set_option maxHeartbeats 400000 in
theorem of_any (ts src seq ek : Int) (p q : Nat) (w : World) :
    Calls Try.prog 40 #[EV ts src seq ek p q] w fun e w' => e = .returned (RV 1 ts src seq ek p q 0 0) ∧ Below w.heap.size w w' := by
  go_enter Try.func40, Try.ntmps40
  go_wp2
  refine bodyPost_ret (v := RV 1 ts src seq ek p q 0 0) (by simp [results, Try.results40, go_sem]) rfl ⟨rfl, ?_⟩
  exact below_two _ _ _
set_option maxHeartbeats 400000 in
theorem mark_any (s t : Int) (w : World) :
    Calls Try.prog 38 #[.int .i64 s, .int .i64 t] w fun e w' => e = .returned (RV 2 0 0 0 0 0 0 s t) ∧ Below w.heap.size w w' := by
  go_enter Try.func38, Try.ntmps38
  go_wp2
  refine bodyPost_ret (v := RV 2 0 0 0 0 0 0 s t) (by simp [results, Try.results38, go_sem]) rfl ⟨rfl, ?_⟩
  exact (Below.refl _ _).alloc (Nat.le_refl _) _
/-- What plane.Right answers of a point. -/
def PtIs (p q : Nat) (b : Bool) : Prop := ∀ w, Calls Try.prog 61 #[.complex .f64 p q] w fun e w' => e = .returned (.bool b) ∧ w = w'
theorem PtIs.at {p q : Nat} {b : Bool} (h : PtIs p q b) (w : World) : Calls Try.prog 61 #[.complex .f64 p q] w fun e w' => e = .returned (.bool b) ∧ w = w' := h w
set_option maxHeartbeats 1000000 in
theorem eRight_any (ts src seq ek : Int) (p q : Nat) (b1 b2 b3 b4 b5 : Bool) (h1 : Hid (upB ts 1099511627776 = b1)) (h2 : Hid (upB src 3 = b2)) (h3 : Hid (upB seq 1048576 = b3)) (h4 : Hid (upB ek 5 = b4)) (h5 : PtIs p q b5) (w : World) :
    Calls Try.prog 58 #[EV ts src seq ek p q] w fun e w' => e = .returned (.bool (b1 && b2 && b3 && b4 && b5)) ∧ Below w.heap.size w w' := by
  cases b1
  · go_enter Try.func58, Try.ntmps58
    go_wp2_with fail
    (with_reducible refine (eUpTo_any _ _ _).mono ?_)
    rintro e w0 ⟨rfl, rfl⟩
    rw [h1.out]
    go_wp2
    go_ret
    exact ⟨rfl, (Below.refl _ _).alloc (Nat.le_refl _) _⟩
  · cases b2
    · go_enter Try.func58, Try.ntmps58
      go_wp2_with fail
      (with_reducible refine (eUpTo_any _ _ _).mono ?_)
      rintro e w0 ⟨rfl, rfl⟩
      rw [h1.out]
      go_wp2_with fail
      (with_reducible refine (eUpTo_any _ _ _).mono ?_)
      rintro e w1 ⟨rfl, rfl⟩
      rw [h2.out]
      go_wp2
      go_ret
      exact ⟨rfl, (Below.refl _ _).alloc (Nat.le_refl _) _⟩
    · cases b3
      · go_enter Try.func58, Try.ntmps58
        go_wp2_with fail
        (with_reducible refine (eUpTo_any _ _ _).mono ?_)
        rintro e w0 ⟨rfl, rfl⟩
        rw [h1.out]
        go_wp2_with fail
        (with_reducible refine (eUpTo_any _ _ _).mono ?_)
        rintro e w1 ⟨rfl, rfl⟩
        rw [h2.out]
        go_wp2_with fail
        (with_reducible refine (eUpTo_any _ _ _).mono ?_)
        rintro e w2 ⟨rfl, rfl⟩
        rw [h3.out]
        go_wp2
        go_ret
        exact ⟨rfl, (Below.refl _ _).alloc (Nat.le_refl _) _⟩
      · cases b4
        · go_enter Try.func58, Try.ntmps58
          go_wp2_with fail
          (with_reducible refine (eUpTo_any _ _ _).mono ?_)
          rintro e w0 ⟨rfl, rfl⟩
          rw [h1.out]
          go_wp2_with fail
          (with_reducible refine (eUpTo_any _ _ _).mono ?_)
          rintro e w1 ⟨rfl, rfl⟩
          rw [h2.out]
          go_wp2_with fail
          (with_reducible refine (eUpTo_any _ _ _).mono ?_)
          rintro e w2 ⟨rfl, rfl⟩
          rw [h3.out]
          go_wp2_with fail
          (with_reducible refine (eUpTo_any _ _ _).mono ?_)
          rintro e w3 ⟨rfl, rfl⟩
          rw [h4.out]
          go_wp2
          go_ret
          exact ⟨rfl, (Below.refl _ _).alloc (Nat.le_refl _) _⟩
        · cases b5
          · go_enter Try.func58, Try.ntmps58
            go_wp2_with fail
            (with_reducible refine (eUpTo_any _ _ _).mono ?_)
            rintro e w0 ⟨rfl, rfl⟩
            rw [h1.out]
            go_wp2_with fail
            (with_reducible refine (eUpTo_any _ _ _).mono ?_)
            rintro e w1 ⟨rfl, rfl⟩
            rw [h2.out]
            go_wp2_with fail
            (with_reducible refine (eUpTo_any _ _ _).mono ?_)
            rintro e w2 ⟨rfl, rfl⟩
            rw [h3.out]
            go_wp2_with fail
            (with_reducible refine (eUpTo_any _ _ _).mono ?_)
            rintro e w3 ⟨rfl, rfl⟩
            rw [h4.out]
            go_wp2_with fail
            (with_reducible refine (h5.at _).mono ?_)
            rintro e w4 ⟨rfl, rfl⟩
            go_wp2
            go_ret
            exact ⟨rfl, (Below.refl _ _).alloc (Nat.le_refl _) _⟩
          · go_enter Try.func58, Try.ntmps58
            go_wp2_with fail
            (with_reducible refine (eUpTo_any _ _ _).mono ?_)
            rintro e w0 ⟨rfl, rfl⟩
            rw [h1.out]
            go_wp2_with fail
            (with_reducible refine (eUpTo_any _ _ _).mono ?_)
            rintro e w1 ⟨rfl, rfl⟩
            rw [h2.out]
            go_wp2_with fail
            (with_reducible refine (eUpTo_any _ _ _).mono ?_)
            rintro e w2 ⟨rfl, rfl⟩
            rw [h3.out]
            go_wp2_with fail
            (with_reducible refine (eUpTo_any _ _ _).mono ?_)
            rintro e w3 ⟨rfl, rfl⟩
            rw [h4.out]
            go_wp2_with fail
            (with_reducible refine (h5.at _).mono ?_)
            rintro e w4 ⟨rfl, rfl⟩
            go_wp2
            go_ret
            exact ⟨rfl, (Below.refl _ _).alloc (Nat.le_refl _) _⟩
end Go.Proofs.Ytepbjjddpfejnaa
