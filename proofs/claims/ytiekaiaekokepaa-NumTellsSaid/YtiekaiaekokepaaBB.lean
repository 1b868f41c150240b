/-
  The walk of the law NumTells at every two numbers, every slice of at most 60 numbers, every text and every slice of bytes of at most 100: the call returns true.
-/
import Derived.Test.YtiekaiaekokepaaAA
import Derived.ShutString
import Derived.ChangeOld
import Derived.Deep.DeepCutAuto
import Derived.Deep.RegionWith
namespace Go.Proofs.Ytiekaiaekokepaa.numTells
open Go.ChangeShapes Go.WideShapes Go.ChangeAt Go.RowKit
open Go.ChangeMaps (open_string shut_string)
set_option linter.unusedVariables false
theorem own : ownKnob Try.prog.godebug = none := by kernel_rfl
theorem laidOut : laidOutB Try.prog = true := by kernel_rfl
theorem ints_below {k : IntKind} {w v : World} {a : Option Addr} {zs : List Int} (h : IntsAt k w a zs) (hb : Below w.heap.size w v) : IntsAt k v a zs := by
  rcases h with rfl | ⟨b, off, rfl, hlt, hc⟩
  · exact .inl rfl
  · exact .inr ⟨b, off, rfl, Nat.lt_of_lt_of_le hlt hb.size, fun i hi => (hb.cell (p := ⟨b, off + i, none⟩) hlt).trans (hc i hi)⟩
theorem conv_own {base n : Nat} {v : Value} {zs : List Int} {w : World} (h : w.ownsRow base 5 1 v n (U zs)) (hn : zs.length = n) :
    (convert 23 9 v).run Try.prog w = .ok (.string (strOfNums zs)) w := by
  rcases h.2 with ⟨rfl, rfl⟩ | ⟨g, cap, cur, rfl, _⟩
  · rw [List.length_eq_zero_iff] at hn
    subst hn
    exact run_convert_bytes_nil w 23 5 Try.underlying23 Try.underlying5 0 0 9 Try.underlying9
  · exact conv_row h hn
theorem own_below {base n B : Nat} {v : Value} {xs : List Value} {w w' : World} (h : w.ownsRow base 5 1 v n xs) (hb : Below B w w') (hB : w.heap.size ≤ B) : w'.ownsRow base 5 1 v n xs := by
  refine ⟨h.1, ?_⟩
  rcases h.2 with hn | ⟨g, cap, cur, he, hb', hgg, rest⟩
  · exact .inl hn
  · exact .inr ⟨g, cap, cur, he, hb', (hb.block g (Nat.lt_of_lt_of_le (Array.getElem?_eq_some_iff.1 hgg).1 hB)).trans hgg, rest⟩
theorem text_S (a : Int) (w : World) (ha : fits a = true) : Calls Try.prog 17 #[.int .i64 a] w fun e w' => e = .returned (S (textB a)) ∧ Below w.heap.size w w' := text_any a w ha
set_option maxRecDepth 100000 in
set_option maxHeartbeats 4000000 in
theorem tells_short (a b bytes : Int) (la ra : Option Addr) (lc rc k : Nat) (zs rs : List Int) (l : List UInt8) (w : World) (ha : fits a = true) (hb : fits b = true)
    (hz : IntsAt .i64 w la zs) (hzl : zs.length ≤ 60) (hzw : ∀ z ∈ zs, fits z = true) (hl : l.length ≤ 100)
    (hk : k ≤ 8) (hby : Hid (bytes = k ∨ bytes < 0 ∧ k = 0 ∨ 8 < bytes ∧ k = 8))
    (hr : IntsAt .u8 w ra rs) (hrl : rs.length ≤ 100) (hrc : rs.length ≤ rc) (hrw : ∀ z ∈ rs, isByte z) :
    Calls Try.prog 3 #[.int .i64 a, .int .i64 b, .slice la zs.length lc, S l, .int .i64 bytes, .slice ra rs.length rc] w fun e w' => e = .returned (.bool true) ∧ Below w.heap.size w w' := by
  have hadd := Lib.hid (add_any a b w ha hb)
  have haddr := Lib.hid (addr_any a b w ha hb)
  have hsub := Lib.hid (sub_any a b w ha hb)
  have hsubr := Lib.hid (subr_any a b w ha hb)
  have hsum := Lib.hid (sum_any la lc zs w hz (by omega) hzw)
  have hsumr := Lib.hid (sumr_any la lc zs w hz (by omega) hzw)
  have hread := Lib.hid (fun w => read_any l w (by omega))
  have hreadr := Lib.hid (fun w => readr_any l w (by omega))
  have htext := Lib.hid (fun w => text_S a w ha)
  have htextr := Lib.hid (fun w => textr_any a w ha)
  have hput := Lib.hid (fun w => put_any a bytes k w ha hk hby.out)
  have hputr := Lib.hid (fun w => putr_any a bytes k w ha hk hby.out)
  have htake := Lib.hid (fun (v : World) (hb : Below w.heap.size w v) => take_any ra rc rs v (ints_below hr hb) (by omega) hrc hrw)
  have htaker := Lib.hid (fun (v : World) (hb : Below w.heap.size w v) => taker_any ra rc rs v (ints_below hr hb) (by omega) hrc hrw)
  have hpl := Lib.hid (show (putL a k).length = k by simp [putL])
  generalize only (a + b) = s1 at *
  generalize code (a + b) = e1 at *
  generalize only (a - b) = s2 at *
  generalize code (a - b) = e2 at *
  generalize sumN zs = s3 at *
  generalize sumE zs = e3 at *
  generalize readN l = s4 at *
  generalize readE l = e4 at *
  generalize textB a = tb at *
  generalize putL a k = pl at *
  generalize takeN (last7 rs) = tk at *
  have g1 : decide ((60 : Int) < zs.length) = false := by simp; omega
  have g2 : decide ((100 : Int) < l.length) = false := by simp; omega
  have g3 : decide ((100 : Int) < rs.length) = false := by simp; omega
  clear hz hzw hr hrw ha hb
  go_enter Try.func3, Try.ntmps3
  go_wp2_with fail
  (with_reducible refine hadd.out.mono ?_)
  rintro e w' ⟨rfl, rfl⟩
  go_wp2_with fail
  (with_reducible refine haddr.out.mono ?_)
  rintro e w' ⟨rfl, rfl⟩
  go_wp2_with fail
  (with_reducible refine hsub.out.mono ?_)
  rintro e w' ⟨rfl, rfl⟩
  go_wp2_with fail
  (with_reducible refine hsubr.out.mono ?_)
  rintro e w' ⟨rfl, rfl⟩
  go_wp2_with fail
  (with_reducible refine hsum.out.mono ?_)
  rintro e w' ⟨rfl, rfl⟩
  go_wp2_with fail
  (with_reducible refine hsumr.out.mono ?_)
  rintro e w' ⟨rfl, rfl⟩
  go_wp2_with fail
  (with_reducible refine (hread.out _).mono ?_)
  rintro e v1 ⟨rfl, hB⟩
  go_wp2_with fail
  (with_reducible refine (hreadr.out _).mono ?_)
  rintro e w' ⟨rfl, rfl⟩
  clear hadd haddr hsub hsubr hsum hsumr hread hreadr
  go_upto_region 13 with fail
  go_cut [12] (fun t wx => t = .bool true ∧ Below w.heap.size w wx)
  case first =>
    go_region_with (first
      | (go_at_call 17; (with_reducible refine (htext.out _).mono ?_); rintro e v2 ⟨rfl, hb2⟩; (have hB : Below w.heap.size w v2 := (by first | exact hB.trans (hb2.mono hB.size) | exact hB.drew.trans (hb2.mono hB.size))))
      | (go_at_call 18; (with_reducible refine (htextr.out _).mono ?_); rintro e v3 ⟨rfl, hb3⟩; (have hB : Below w.heap.size w v3 := (by first | exact hB.trans (hb3.mono hB.size) | exact hB.drew.trans (hb3.mono hB.size))))
      | (go_at_call 19; (with_reducible refine (hput.out _).mono ?_); rintro e v4 ⟨rfl, hr4, hb4⟩; (have hB : Below w.heap.size w v4 := (by first | exact hB.trans (hb4.mono hB.size) | exact hB.drew.trans (hb4.mono hB.size))); have hc4 := conv_own hr4 hpl.out)
      | (go_at_call 20; (with_reducible refine (hputr.out _).mono ?_); rintro e v5 ⟨p5, rfl, hr5, hb5⟩; (have hB : Below w.heap.size w v5 := (by first | exact hB.trans (hb5.mono hB.size) | exact hB.drew.trans (hb5.mono hB.size))); have hr4' := own_below hr4 hb5 (Nat.le_refl _); have hc4' := conv_own hr4' hpl.out; have hc5 := conv_own hr5 hpl.out)
      | (go_at_call 21; (with_reducible refine (htake.out _ hB).mono ?_); rintro e v6 ⟨rfl, rfl⟩)
      | (go_at_call 22; (with_reducible refine (htaker.out _ hB).mono ?_); rintro e v7 ⟨rfl, rfl⟩)
      | (go_at_call 8; (with_reducible refine (wakes_any _).mono ?_); rintro e v8 ⟨rfl, hb8⟩; (have hB : Below w.heap.size w v8 := (by first | exact hB.trans (hb8.mono hB.size) | exact hB.drew.trans (hb8.mono hB.size)))))
    all_goals (go_wp2_with fail)
    all_goals go_meet
    all_goals first
      | exact ⟨rfl, hB⟩
      | exact ⟨by simp, hB⟩
  case rest =>
    obtain ⟨rfl, hbl⟩ := hcut
    go_wp2_with fail
    go_ret
    exact ⟨rfl, hbl⟩
end Go.Proofs.Ytiekaiaekokepaa.numTells
