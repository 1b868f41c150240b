/-
  The law's standing examples (wakes) return true; no condition.
-/
import Derived.Test.YtiekaiaekokepaaK
namespace Go.Proofs.Ytiekaiaekokepaa
open Go.ChangeShapes Go.WideShapes Go.ChangeAt Go.RowKit
set_option linter.unusedVariables false
theorem low40 : lowN 40 = [48, 52] := by rw [lowN_more _ (by omega), lowN_last _ (by omega)]; rfl
theorem lowMin : lowN 9223372036854775808 = [56, 48, 56, 53, 55, 55, 52, 53, 56, 54, 51, 48, 50, 55, 51, 51, 50, 50, 57] := by
  iterate 18 rw [lowN_more _ (by omega)]
  rw [lowN_last _ (by omega)]
  rfl
theorem text_m40 (w : World) : Calls Try.prog 17 #[.int .i64 (-40)] w fun e w' => e = .returned (S [45, 52, 48]) ∧ Below w.heap.size w w' := by
  have := text_any (-40) w (by decide)
  rw [show textZ (-40) = [45, 52, 48] by unfold textZ; rw [show (-40 : Int).natAbs = 40 from rfl, low40]; rfl] at this
  exact this
theorem text_min (w : World) : Calls Try.prog 17 #[.int .i64 (-9223372036854775808)] w fun e w' => e = .returned (S [45, 57, 50, 50, 51, 51, 55, 50, 48, 51, 54, 56, 53, 52, 55, 55, 53, 56, 48, 56]) ∧ Below w.heap.size w w' := by
  have := text_any (-9223372036854775808) w (by decide)
  rw [show textZ (-9223372036854775808) = [45, 57, 50, 50, 51, 51, 55, 50, 48, 51, 54, 56, 53, 52, 55, 55, 53, 56, 48, 56] by unfold textZ; rw [show (-9223372036854775808 : Int).natAbs = 9223372036854775808 from rfl, lowMin]; rfl] at this
  exact this
theorem read_is (l : List UInt8) (n e : Int) (hl : l.length ≤ 200) (hn : readN l = n) (he : readE l = e) (w : World) :
    Calls Try.prog 15 #[S l] w fun r w' => r = .returned (.tuple #[.int .i64 n, .int .i64 e]) ∧ Below w.heap.size w w' := by
  have := read_any l w hl
  rwa [hn, he] at this
theorem add_is (a b n e : Int) (ha : fits a = true) (hb : fits b = true) (hn : only (a + b) = n) (he : code (a + b) = e) (w : World) :
    Calls Try.prog 9 #[.int .i64 a, .int .i64 b] w fun r w' => r = .returned (.tuple #[.int .i64 n, .int .i64 e]) ∧ w = w' := by
  have := add_any a b w ha hb
  rwa [hn, he] at this
theorem sub_is (a b n e : Int) (ha : fits a = true) (hb : fits b = true) (hn : only (a - b) = n) (he : code (a - b) = e) (w : World) :
    Calls Try.prog 11 #[.int .i64 a, .int .i64 b] w fun r w' => r = .returned (.tuple #[.int .i64 n, .int .i64 e]) ∧ w = w' := by
  have := sub_any a b w ha hb
  rwa [hn, he] at this
theorem sum3_is (x y z n e : Int) (hx : fits x = true) (hy : fits y = true) (hz : fits z = true) (hn : sumN [x, y, z] = n) (he : sumE [x, y, z] = e) (w : World) :
    Calls Try.prog 13 #[.slice (some ⟨w.heap.size, 0, none⟩) 3 3] (w.alloc (.cells #[.int .i64 x, .int .i64 y, .int .i64 z] 3)) fun r w' => r = .returned (.tuple #[.int .i64 n, .int .i64 e]) ∧ w.alloc (.cells #[.int .i64 x, .int .i64 y, .int .i64 z] 3) = w' := by
  have := sum_any (some ⟨w.heap.size, 0, none⟩) 3 [x, y, z] (w.alloc (.cells #[.int .i64 x, .int .i64 y, .int .i64 z] 3))
    (.inr ⟨w.heap.size, 0, rfl, by simp, fun i hi => by
      simp at hi
      rw [cell_of_row _ _ _ _ _ _ (World.alloc_heap_new w _)]
      match i, hi with
      | 0, _ => rfl
      | 1, _ => rfl
      | 2, _ => rfl⟩) (by simp) (by simp [hx, hy, hz])
  rwa [hn, he] at this
theorem w1 (w : World) : Calls Try.prog 9 #[.int .i64 9223372036854775807, .int .i64 1] w fun r w' => r = .returned (.tuple #[.int .i64 0, .int .i64 12]) ∧ w = w' :=
  add_is 9223372036854775807 1 0 12 (by decide) (by decide) (by decide) (by decide) w
theorem w2 (w : World) : Calls Try.prog 9 #[.int .i64 9223372036854775807, .int .i64 (-1)] w fun r w' => r = .returned (.tuple #[.int .i64 9223372036854775806, .int .i64 0]) ∧ w = w' :=
  add_is 9223372036854775807 (-1) 9223372036854775806 0 (by decide) (by decide) (by decide) (by decide) w
theorem w3 (w : World) : Calls Try.prog 11 #[.int .i64 (-5), .int .i64 3] w fun r w' => r = .returned (.tuple #[.int .i64 (-8), .int .i64 0]) ∧ w = w' :=
  sub_is (-5) 3 (-8) 0 (by decide) (by decide) (by decide) (by decide) w
theorem w4 (w : World) : Calls Try.prog 11 #[.int .i64 (-9223372036854775808), .int .i64 1] w fun r w' => r = .returned (.tuple #[.int .i64 0, .int .i64 12]) ∧ w = w' :=
  sub_is (-9223372036854775808) 1 0 12 (by decide) (by decide) (by decide) (by decide) w
theorem w5 (w : World) : Calls Try.prog 13 #[.slice (some ⟨w.heap.size, 0, none⟩) 3 3] (w.alloc (.cells #[.int .i64 4611686018427387904, .int .i64 4611686018427387903, .int .i64 (-7)] 3)) fun r w' => r = .returned (.tuple #[.int .i64 9223372036854775800, .int .i64 0]) ∧ w.alloc (.cells #[.int .i64 4611686018427387904, .int .i64 4611686018427387903, .int .i64 (-7)] 3) = w' :=
  sum3_is 4611686018427387904 4611686018427387903 (-7) 9223372036854775800 0 (by decide) (by decide) (by decide) (by decide) (by decide) w
theorem w6 (w : World) : Calls Try.prog 13 #[.slice (some ⟨w.heap.size, 0, none⟩) 3 3] (w.alloc (.cells #[.int .i64 4611686018427387904, .int .i64 4611686018427387904, .int .i64 (-7)] 3)) fun r w' => r = .returned (.tuple #[.int .i64 0, .int .i64 12]) ∧ w.alloc (.cells #[.int .i64 4611686018427387904, .int .i64 4611686018427387904, .int .i64 (-7)] 3) = w' :=
  sum3_is 4611686018427387904 4611686018427387904 (-7) 0 12 (by decide) (by decide) (by decide) (by decide) (by decide) w
theorem w7 (w : World) : Calls Try.prog 15 #[S [45, 52, 48]] w fun r w' => r = .returned (.tuple #[.int .i64 (-40), .int .i64 0]) ∧ Below w.heap.size w w' :=
  read_is [45, 52, 48] (-40) 0 (by decide) (by decide) (by decide) w
theorem w8 (w : World) : Calls Try.prog 15 #[S [45, 48]] w fun r w' => r = .returned (.tuple #[.int .i64 0, .int .i64 11]) ∧ Below w.heap.size w w' :=
  read_is [45, 48] 0 11 (by decide) (by decide) (by decide) w
theorem w9 (w : World) : Calls Try.prog 15 #[S [48, 48, 55]] w fun r w' => r = .returned (.tuple #[.int .i64 0, .int .i64 11]) ∧ Below w.heap.size w w' :=
  read_is [48, 48, 55] 0 11 (by decide) (by decide) (by decide) w
theorem w10 (w : World) : Calls Try.prog 15 #[S []] w fun r w' => r = .returned (.tuple #[.int .i64 0, .int .i64 11]) ∧ Below w.heap.size w w' :=
  read_is [] 0 11 (by decide) (by decide) (by decide) w
theorem w11 (w : World) : Calls Try.prog 15 #[S [57, 50, 50, 51, 51, 55, 50, 48, 51, 54, 56, 53, 52, 55, 55, 53, 56, 48, 56]] w fun r w' => r = .returned (.tuple #[.int .i64 0, .int .i64 12]) ∧ Below w.heap.size w w' :=
  read_is [57, 50, 50, 51, 51, 55, 50, 48, 51, 54, 56, 53, 52, 55, 55, 53, 56, 48, 56] 0 12 (by decide) (by decide) (by decide) w
theorem w12 (w : World) : Calls Try.prog 15 #[S [45, 57, 50, 50, 51, 51, 55, 50, 48, 51, 54, 56, 53, 52, 55, 55, 53, 56, 48, 56]] w fun r w' => r = .returned (.tuple #[.int .i64 (-9223372036854775808), .int .i64 0]) ∧ Below w.heap.size w w' :=
  read_is [45, 57, 50, 50, 51, 51, 55, 50, 48, 51, 54, 56, 53, 52, 55, 55, 53, 56, 48, 56] (-9223372036854775808) 0 (by decide) (by decide) (by decide) w
theorem w13 (w : World) : Calls Try.prog 19 #[.int .i64 258, .int .i64 3] w fun e w' => e = .returned (.slice (some ⟨w.heap.size, 0, none⟩) 3 3) ∧
      w'.ownsRow w.heap.size 5 1 (.slice (some ⟨w.heap.size, 0, none⟩) 3 3) 3 (U [0, 1, 2]) ∧ Below w.heap.size w w' := by
  have := put_any 258 3 3 w (by decide) (by decide) (.inl rfl)
  rw [show putL 258 3 = [0, 1, 2] by decide] at this
  exact this

theorem ints_of_row {base g n cap : Nat} {zs : List Int} {w : World} (h : w.ownsRow base 5 1 (.slice (some ⟨g, 0, none⟩) n cap) n (U zs)) (hn : zs.length = n) : IntsAt .u8 w (some ⟨g, 0, none⟩) zs := by
  refine .inr ⟨g, 0, rfl, ?_, fun i hi => ?_⟩
  · rcases h.2 with ⟨e, _⟩ | ⟨g', _, cur, e, _, hgb, _⟩
    · cases e
    · cases e; exact (Array.getElem?_eq_some_iff.1 hgb).1
  · have := h.cellAt i (by omega)
    rw [Nat.zero_add, this]
    simp [hi]
theorem row_below {base g n cap B : Nat} {xs : List Value} {w w' : World} (h : w.ownsRow base 5 1 (.slice (some ⟨g, 0, none⟩) n cap) n xs) (hb : Below B w w') (hB : w.heap.size ≤ B) : w'.ownsRow base 5 1 (.slice (some ⟨g, 0, none⟩) n cap) n xs := by
  refine ⟨h.1, ?_⟩
  rcases h.2 with hn | ⟨g, cap, cur, he, hb', hgg, rest⟩
  · exact .inl hn
  · exact .inr ⟨g, cap, cur, he, hb', (hb.block g (Nat.lt_of_lt_of_le (Array.getElem?_eq_some_iff.1 hgg).1 hB)).trans hgg, rest⟩
theorem take_is3 {base g : Nat} {w : World} (h : w.ownsRow base 5 1 (.slice (some ⟨g, 0, none⟩) 3 3) 3 (U [0, 1, 2])) :
    Calls Try.prog 21 #[.slice (some ⟨g, 0, none⟩) 3 3] w fun e w' => e = .returned (.int .i64 258) ∧ w = w' := by
  have := take_any (some ⟨g, 0, none⟩) 3 [0, 1, 2] w (ints_of_row h rfl) (by decide) (by decide) (by intro z hz; simp at hz; unfold isByte; omega)
  rw [show takeN (last7 [0, 1, 2]) = 258 by decide] at this
  exact this
set_option maxRecDepth 100000 in
set_option maxHeartbeats 4000000 in
theorem wakes_any (w : World) : Calls Try.prog 8 #[] w fun e w' => e = .returned (.bool true) ∧ Below w.heap.size w w' := by
  go_enter Try.func8, Try.ntmps8
  go_wp2_with fail
  (with_reducible refine (w1 _).mono ?_)
  rintro e w' ⟨rfl, rfl⟩
  go_wp2_with fail
  (with_reducible refine (w2 _).mono ?_)
  rintro e w' ⟨rfl, rfl⟩
  go_wp2_with fail
  (with_reducible refine (w3 _).mono ?_)
  rintro e w' ⟨rfl, rfl⟩
  go_wp2_with fail
  (with_reducible refine (w4 _).mono ?_)
  rintro e w' ⟨rfl, rfl⟩
  go_wp2_with fail
  (with_reducible refine (w5 _).mono ?_)
  rintro e w' ⟨rfl, rfl⟩
  have hb5 := (Below.refl w.heap.size w).alloc (Nat.le_refl _) (.cells #[.int .i64 4611686018427387904, .int .i64 4611686018427387903, .int .i64 (-7)] 3)
  generalize w.alloc (.cells #[.int .i64 4611686018427387904, .int .i64 4611686018427387903, .int .i64 (-7)] 3) = w0 at *
  go_wp2_with fail
  (with_reducible refine (w6 _).mono ?_)
  rintro e w' ⟨rfl, rfl⟩
  have hb0 := hb5.alloc hb5.size (.cells #[.int .i64 4611686018427387904, .int .i64 4611686018427387904, .int .i64 (-7)] 3)
  generalize w0.alloc (.cells #[.int .i64 4611686018427387904, .int .i64 4611686018427387904, .int .i64 (-7)] 3) = w00 at *
  go_wp2_with fail
  (with_reducible refine (w7 _).mono ?_)
  rintro e v1 ⟨rfl, hb1⟩
  go_wp2_with fail
  (with_reducible refine (w8 _).mono ?_)
  rintro e v2 ⟨rfl, hb2⟩
  go_wp2_with fail
  (with_reducible refine (w9 _).mono ?_)
  rintro e v3 ⟨rfl, hb3⟩
  go_wp2_with fail
  (with_reducible refine (w10 _).mono ?_)
  rintro e v4 ⟨rfl, hb4⟩
  go_wp2_with fail
  (with_reducible refine (w11 _).mono ?_)
  rintro e v5 ⟨rfl, hb5'⟩
  go_wp2_with fail
  (with_reducible refine (w12 _).mono ?_)
  rintro e v6 ⟨rfl, hb6⟩
  go_wp2_with fail
  (with_reducible refine (w13 _).mono ?_)
  rintro e v7 ⟨rfl, hr7, hb7⟩
  go_wp2_with fail
  (with_reducible refine (text_m40 _).mono ?_)
  rintro e v8 ⟨rfl, hb8⟩
  have hr8 := row_below hr7 hb8 (Nat.le_refl _)
  go_wp2_with fail
  (with_reducible refine (text_min _).mono ?_)
  rintro e v9 ⟨rfl, hb9⟩
  have hr9 := row_below hr8 hb9 (Nat.le_refl _)
  have hconv := conv_row hr9 rfl
  rw [show strOfNums [0, 1, 2] = ⟨#[0, 1, 2]⟩ from rfl] at hconv
  go_wp2_with fail
  (with_reducible refine (take_is3 hr9).mono ?_)
  rintro e v10 ⟨rfl, rfl⟩
  go_wp2_with fail
  go_ret
  refine ⟨rfl, ?_⟩
  have s0 := hb0.size
  have s1 := hb1.size
  have s2 := hb2.size
  have s3 := hb3.size
  have s4 := hb4.size
  have s5 := hb5'.size
  have s6 := hb6.size
  have s7 := hb7.size
  have s8 := hb8.size
  have s9 := hb9.size
  exact hb0.trans ((hb1.mono (by omega)).trans ((hb2.mono (by omega)).trans ((hb3.mono (by omega)).trans ((hb4.mono (by omega)).trans ((hb5'.mono (by omega)).trans ((hb6.mono (by omega)).trans ((hb7.mono (by omega)).trans ((hb8.mono (by omega)).trans (hb9.mono (by omega))))))))))
end Go.Proofs.Ytiekaiaekokepaa
