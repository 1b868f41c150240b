/-
  Contracts of record's tellers, kinds and of the function that kinds hands back; no condition.
-/
import Derived.Test.YtepbjjddpfejnaaI
import Derived.MapKept
namespace Go.Proofs.Ytepbjjddpfejnaa
open Go.ChangeShapes Go.WideShapes Go.ChangeAt Go.RowKit
set_option linter.unusedVariables false
set_option linter.unusedSimpArgs false
attribute [local go_sem] Oper.semAt_some
/-- The function value that the map holds at a kind. -/
abbrev Teller (f B : Nat) : Value := .func (.func f) #[] #[.pointer (some ⟨B, 0, none⟩)]
theorem insert_new {w : World} {r : Nat} {es : Array MapEntry} {clock : Nat} {k : Int} {v : Value} (h : w.heap[r]? = some (.map es clock)) (hf : Instr.findNow (.int .u8) (.int .u8 k) es.toList 0 = some none) :
    (Instr.mapUpdate 84 (.map (some r)) (.int .u8 k) v).run Try.prog w = .ok () (w.putObj r (.map (es.push { key := .int .u8 k, val := v, born := clock }) (clock + 1))) := by
  have hc : (Instr.checkKey false 10000 5 (.int .u8 k)).run Try.prog w = .ok () w := MapKept.run_checkKey (d := .int .u8) (k := .int .u8 k) Try.underlying5 (by simp [MapKept.IsKey]) false 9999
  simp [Instr.mapUpdate, run_underlying Try.underlying84, MapKept.run_getObj_map h, hc, MapKept.run_findKey Try.underlying5 hf, MapKept.run_setObj_map _ h, Result.andThen, World.putObj]
theorem lookup_at {w : World} {r : Nat} {es : Array MapEntry} {clock : Nat} {k : Int} {v : Value} {i : Nat} (h : w.heap[r]? = some (.map es clock)) (hf : Instr.findNow (.int .u8) (.int .u8 k) es.toList 0 = some (some (i, v))) :
    (Instr.lookup 84 (.map (some r)) (.int .u8 k) false).run Try.prog w = .ok v w := by
  have hc : (Instr.checkKey es.isEmpty 10000 5 (.int .u8 k)).run Try.prog w = .ok () w := MapKept.run_checkKey (d := .int .u8) (k := .int .u8 k) Try.underlying5 (by simp [MapKept.IsKey]) _ 9999
  simp [Instr.lookup, run_underlying Try.underlying84, MapKept.run_getObj_map h, hc, MapKept.run_findKey Try.underlying5 hf, Result.andThen]
theorem put_new (w : World) (o o' : Obj) : (w.alloc o).putObj w.heap.size o' = w.alloc o' := by
  have e : (w.heap.push o).setIfInBounds w.heap.size o' = w.heap.push o' := by
    apply Array.ext'
    simp [Array.toList_setIfInBounds, Array.toList_push, List.set_append]
  show ({ w with heap := (w.heap.push o).setIfInBounds w.heap.size o' } : World) = { w with heap := w.heap.push o' }
  rw [e]
/-- The map that tellers lays: what is told as an event, what as a mark. -/
def tellMap (B : Nat) : Obj := .map #[{ key := .int .u8 1, val := Teller 52 B, born := 0 }, { key := .int .u8 2, val := Teller 54 B, born := 1 }] 2
theorem first_new (w : World) (v : Value) : (Instr.mapUpdate 84 (.map (some w.heap.size)) (.int .u8 1) v).run Try.prog (w.alloc (.map #[] 0)) = .ok () (w.alloc (.map #[{ key := .int .u8 1, val := v, born := 0 }] 1)) := by
  rw [insert_new (World.alloc_heap_new w _) rfl, put_new]; rfl
theorem second_new (w : World) (u v : Value) : (Instr.mapUpdate 84 (.map (some w.heap.size)) (.int .u8 2) v).run Try.prog (w.alloc (.map #[{ key := .int .u8 1, val := u, born := 0 }] 1)) =
    .ok () (w.alloc (.map #[{ key := .int .u8 1, val := u, born := 0 }, { key := .int .u8 2, val := v, born := 1 }] 2)) := by
  rw [insert_new (World.alloc_heap_new w _) rfl, put_new]; rfl
set_option maxHeartbeats 400000 in
theorem tellers_any (k ts src seq ek : Int) (p q : Nat) (rs rt : Int) (w : World) :
    Calls Try.prog 47 #[RV k ts src seq ek p q rs rt] w fun e w' => e = .returned (.map (some (w.heap.size + 1))) ∧ w' = (w.alloc (.cells #[.int .u8 k, .int .i64 ts, .int .i64 src, .int .i64 seq, .int .i64 ek, .complex .f64 p q, .int .i64 rs, .int .i64 rt] 42)).alloc (tellMap w.heap.size) := by
  have f1 := first_new (w.alloc (.cells #[.int .u8 k, .int .i64 ts, .int .i64 src, .int .i64 seq, .int .i64 ek, .complex .f64 p q, .int .i64 rs, .int .i64 rt] 42)) (Teller 52 w.heap.size)
  have f2 := second_new (w.alloc (.cells #[.int .u8 k, .int .i64 ts, .int .i64 src, .int .i64 seq, .int .i64 ek, .complex .f64 p q, .int .i64 rs, .int .i64 rt] 42)) (Teller 52 w.heap.size) (Teller 54 w.heap.size)
  rw [World.size_alloc] at f1 f2
  have hmm := @run_makeMap Try.prog
  go_enter Try.func47, Try.ntmps47
  go_wp2
  go_ret
  exact ⟨rfl, rfl⟩
set_option maxHeartbeats 400000 in
theorem kinds_any (w : World) : Calls Try.prog 48 #[] w fun e w' => e = .returned (.func (.func 56) #[] #[]) ∧ w = w' := by
  go_enter Try.func48, Try.ntmps48
  go_wp2
  go_ret
  exact ⟨rfl, rfl⟩
def kindRow : List (Array Value) := [#[.int .u8 1], #[.int .u8 2]]
set_option maxRecDepth 100000 in
set_option maxHeartbeats 1000000 in
theorem kinds_tells (n : Nat) (hn : 1 ≤ n) (w : World) : TellsRow True Fence.wide n Try.prog 56 #[] kindRow w := by
  intro l J Jx W hW hY h0
  have HY := Lib.hid hY
  clear hY
  refine callsIn_of_wp Try.func56 rfl trivial ?_ rfl
  simp only [Try.ntmps56, List.size_toArray, List.length_cons, List.length_nil, Nat.reduceAdd, Nat.reduceSub, Array.replicate_succ, Array.replicate_zero, List.push_toArray, List.append_toArray, List.nil_append, List.cons_append]
  gi_wp2
  gi_loopw [2] (fun t wr => ∃ k : Nat, (k = 0 ∧ t = .int .u8 1 ∨ k = 1 ∧ t = .int .u8 2 ∨ k = 2 ∧ t = .int .u8 3) ∧ J k wr) (fun t _ => 3 - (intOf t).toNat)
  case atStart => exact ⟨0, .inl ⟨rfl, rfl⟩, h0⟩
  case round =>
    clear h0
    obtain ⟨k, ⟨rfl, rfl⟩ | ⟨rfl, rfl⟩ | ⟨rfl, rfl⟩, hJ⟩ := hrel
    · obtain ⟨fn, tmps, assign, body, hy, hR⟩ := HY.out 0 (by decide) wr hJ
      have hy' : (Instr.yield l #[.int .u8 1]).run Try.prog wr = _ := hy
      clear hy
      gi_wp2
      refine hR.mono ?_
      rintro e W3 (⟨rfl, hJ3⟩ | ⟨_, rfl, hJx3⟩)
      · gi_wp2
        go_roundw
        case rel => exact ⟨1, .inr (.inl ⟨rfl, rfl⟩), hJ3⟩
        case measure => simp [intOf]
      · gi_wp2
        refine bodyPost_ret (results_none rfl _ _ _) rfl ?_
        exact ⟨⟨_, rfl⟩, .inr ⟨_, hJx3⟩⟩
    · obtain ⟨fn, tmps, assign, body, hy, hR⟩ := HY.out 1 (by decide) wr hJ
      have hy' : (Instr.yield l #[.int .u8 2]).run Try.prog wr = _ := hy
      clear hy
      gi_wp2
      refine hR.mono ?_
      rintro e W3 (⟨rfl, hJ3⟩ | ⟨_, rfl, hJx3⟩)
      · gi_wp2
        go_roundw
        case rel => exact ⟨2, .inr (.inr ⟨rfl, rfl⟩), hJ3⟩
        case measure => simp [intOf]
      · gi_wp2
        refine bodyPost_ret (results_none rfl _ _ _) rfl ?_
        exact ⟨⟨_, rfl⟩, .inr ⟨_, hJx3⟩⟩
    · gi_wp2
      go_end0
      exact ⟨⟨_, rfl⟩, .inl hJ⟩
end Go.Proofs.Ytepbjjddpfejnaa
