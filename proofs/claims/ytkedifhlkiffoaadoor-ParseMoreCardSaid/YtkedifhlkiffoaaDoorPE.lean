/-
  Contracts of the reader's rests: the map of closures; what a look-up in it tells.
-/
import Derived.Test.YtkedifhlkiffoaaDoorPD
import Derived.MapKept
namespace Go.Proofs.YtkedifhlkiffoaaDoor
open Go.ChangeShapes Go.WideShapes Go.ChangeAt Go.RowKit
set_option linter.unusedVariables false
set_option linter.unusedSimpArgs false
attribute [local go_sem] Oper.semAt_some
/-- A closure of rests over the reader's box. -/
abbrev RestF (f B : Nat) : Value := .func (.func f) #[] #[.pointer (some ⟨B, 0, none⟩)]
theorem put_new (w : World) (o o' : Obj) : (w.alloc o).putObj w.heap.size o' = w.alloc o' := by
  have e : (w.heap.push o).setIfInBounds w.heap.size o' = w.heap.push o' := by
    apply Array.ext'
    simp [Array.toList_setIfInBounds, Array.toList_push, List.set_append]
  show ({ w with heap := (w.heap.push o).setIfInBounds w.heap.size o' } : World) = { w with heap := w.heap.push o' }
  rw [e]
theorem rest_put (w : World) (es : Array MapEntry) (clock : Nat) (k : Int) (v : Value) (hf : Instr.findNow (.int .i64) (.int .i64 k) es.toList 0 = some none) :
    (Instr.mapUpdate 152 (.map (some w.heap.size)) (.int .i64 k) v).run Tryd.prog (w.alloc (.map es clock)) = .ok () (w.alloc (.map (es.push { key := .int .i64 k, val := v, born := clock }) (clock + 1))) := by
  have h := World.alloc_heap_new w (.map es clock)
  have hc : (Instr.checkKey false 10000 3 (.int .i64 k)).run Tryd.prog (w.alloc (.map es clock)) = .ok () (w.alloc (.map es clock)) := MapKept.run_checkKey (d := .int .i64) (k := .int .i64 k) Tryd.underlying3 (by simp [MapKept.IsKey]) false 9999
  have := put_new w (.map es clock) (.map (es.push { key := .int .i64 k, val := v, born := clock }) (clock + 1))
  simp [World.putObj] at this
  simp [Instr.mapUpdate, run_underlying Tryd.underlying152, MapKept.run_getObj_map h, hc, MapKept.run_findKey Tryd.underlying3 hf, MapKept.run_setObj_map _ h, Result.andThen, World.putObj]
  exact this
/-- The map that rests lays. -/
def restMap (B : Nat) : Obj := .map #[{ key := .int .i64 19, val := RestF 131 B, born := 0 }, { key := .int .i64 23, val := RestF 133 B, born := 1 }, { key := .int .i64 24, val := RestF 134 B, born := 2 }, { key := .int .i64 13, val := RestF 135 B, born := 3 }, { key := .int .i64 3, val := RestF 136 B, born := 4 }, { key := .int .i64 2, val := RestF 138 B, born := 5 }] 6
theorem rest_put0 (w : World) (B : Nat) : (Instr.mapUpdate 152 (.map (some w.heap.size)) (.int .i64 19) (RestF 131 B)).run Tryd.prog (w.alloc (.map #[] 0)) = .ok () (w.alloc (.map #[{ key := .int .i64 19, val := RestF 131 B, born := 0 }] 1)) := by
  rw [rest_put _ _ _ _ _ rfl]; rfl
theorem rest_put1 (w : World) (B : Nat) : (Instr.mapUpdate 152 (.map (some w.heap.size)) (.int .i64 23) (RestF 133 B)).run Tryd.prog (w.alloc (.map #[{ key := .int .i64 19, val := RestF 131 B, born := 0 }] 1)) = .ok () (w.alloc (.map #[{ key := .int .i64 19, val := RestF 131 B, born := 0 }, { key := .int .i64 23, val := RestF 133 B, born := 1 }] 2)) := by
  rw [rest_put _ _ _ _ _ rfl]; rfl
theorem rest_put2 (w : World) (B : Nat) : (Instr.mapUpdate 152 (.map (some w.heap.size)) (.int .i64 24) (RestF 134 B)).run Tryd.prog (w.alloc (.map #[{ key := .int .i64 19, val := RestF 131 B, born := 0 }, { key := .int .i64 23, val := RestF 133 B, born := 1 }] 2)) = .ok () (w.alloc (.map #[{ key := .int .i64 19, val := RestF 131 B, born := 0 }, { key := .int .i64 23, val := RestF 133 B, born := 1 }, { key := .int .i64 24, val := RestF 134 B, born := 2 }] 3)) := by
  rw [rest_put _ _ _ _ _ rfl]; rfl
theorem rest_put3 (w : World) (B : Nat) : (Instr.mapUpdate 152 (.map (some w.heap.size)) (.int .i64 13) (RestF 135 B)).run Tryd.prog (w.alloc (.map #[{ key := .int .i64 19, val := RestF 131 B, born := 0 }, { key := .int .i64 23, val := RestF 133 B, born := 1 }, { key := .int .i64 24, val := RestF 134 B, born := 2 }] 3)) = .ok () (w.alloc (.map #[{ key := .int .i64 19, val := RestF 131 B, born := 0 }, { key := .int .i64 23, val := RestF 133 B, born := 1 }, { key := .int .i64 24, val := RestF 134 B, born := 2 }, { key := .int .i64 13, val := RestF 135 B, born := 3 }] 4)) := by
  rw [rest_put _ _ _ _ _ rfl]; rfl
theorem rest_put4 (w : World) (B : Nat) : (Instr.mapUpdate 152 (.map (some w.heap.size)) (.int .i64 3) (RestF 136 B)).run Tryd.prog (w.alloc (.map #[{ key := .int .i64 19, val := RestF 131 B, born := 0 }, { key := .int .i64 23, val := RestF 133 B, born := 1 }, { key := .int .i64 24, val := RestF 134 B, born := 2 }, { key := .int .i64 13, val := RestF 135 B, born := 3 }] 4)) = .ok () (w.alloc (.map #[{ key := .int .i64 19, val := RestF 131 B, born := 0 }, { key := .int .i64 23, val := RestF 133 B, born := 1 }, { key := .int .i64 24, val := RestF 134 B, born := 2 }, { key := .int .i64 13, val := RestF 135 B, born := 3 }, { key := .int .i64 3, val := RestF 136 B, born := 4 }] 5)) := by
  rw [rest_put _ _ _ _ _ rfl]; rfl
theorem rest_put5 (w : World) (B : Nat) : (Instr.mapUpdate 152 (.map (some w.heap.size)) (.int .i64 2) (RestF 138 B)).run Tryd.prog (w.alloc (.map #[{ key := .int .i64 19, val := RestF 131 B, born := 0 }, { key := .int .i64 23, val := RestF 133 B, born := 1 }, { key := .int .i64 24, val := RestF 134 B, born := 2 }, { key := .int .i64 13, val := RestF 135 B, born := 3 }, { key := .int .i64 3, val := RestF 136 B, born := 4 }] 5)) = .ok () (w.alloc (.map #[{ key := .int .i64 19, val := RestF 131 B, born := 0 }, { key := .int .i64 23, val := RestF 133 B, born := 1 }, { key := .int .i64 24, val := RestF 134 B, born := 2 }, { key := .int .i64 13, val := RestF 135 B, born := 3 }, { key := .int .i64 3, val := RestF 136 B, born := 4 }, { key := .int .i64 2, val := RestF 138 B, born := 5 }] 6)) := by
  rw [rest_put _ _ _ _ _ rfl]; rfl
set_option maxRecDepth 100000 in
set_option maxHeartbeats 1000000 in
theorem rests_any (R : Nat) (w : World) :
    Calls Tryd.prog 130 #[.pointer (some ⟨R, 0, none⟩)] w fun e w' => e = .returned (.map (some (w.heap.size + 1))) ∧ w' = (w.alloc (.cells #[.pointer (some ⟨R, 0, none⟩)] 102)).alloc (restMap w.heap.size) := by
  have f0 := rest_put0 (w.alloc (.cells #[.pointer (some ⟨R, 0, none⟩)] 102)) w.heap.size
  have f1 := rest_put1 (w.alloc (.cells #[.pointer (some ⟨R, 0, none⟩)] 102)) w.heap.size
  have f2 := rest_put2 (w.alloc (.cells #[.pointer (some ⟨R, 0, none⟩)] 102)) w.heap.size
  have f3 := rest_put3 (w.alloc (.cells #[.pointer (some ⟨R, 0, none⟩)] 102)) w.heap.size
  have f4 := rest_put4 (w.alloc (.cells #[.pointer (some ⟨R, 0, none⟩)] 102)) w.heap.size
  have f5 := rest_put5 (w.alloc (.cells #[.pointer (some ⟨R, 0, none⟩)] 102)) w.heap.size
  rw [World.size_alloc] at f0 f1 f2 f3 f4 f5
  have hmm := @run_makeMap Tryd.prog
  go_enter Tryd.func130, Tryd.ntmps130
  go_wp2
  go_ret
  exact ⟨rfl, rfl⟩
theorem rest_get {w : World} {r : Nat} {es : Array MapEntry} {clock : Nat} {k : Int} {v : Value} {i : Nat} (h : w.heap[r]? = some (.map es clock)) (hf : Instr.findNow (.int .i64) (.int .i64 k) es.toList 0 = some (some (i, v))) :
    (Instr.lookup 152 (.map (some r)) (.int .i64 k) true).run Tryd.prog w = .ok (.tuple #[v, .bool true]) w := by
  have hc : (Instr.checkKey es.isEmpty 10000 3 (.int .i64 k)).run Tryd.prog w = .ok () w := MapKept.run_checkKey (d := .int .i64) (k := .int .i64 k) Tryd.underlying3 (by simp [MapKept.IsKey]) _ 9999
  simp [Instr.lookup, run_underlying Tryd.underlying152, MapKept.run_getObj_map h, hc, MapKept.run_findKey Tryd.underlying3 hf, Result.andThen]
end Go.Proofs.YtkedifhlkiffoaaDoor
