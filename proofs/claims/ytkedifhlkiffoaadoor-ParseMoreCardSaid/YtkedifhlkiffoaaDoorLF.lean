/-
  Contracts of lex.number at digits, lex.word at small letters.
-/
import Derived.Test.YtkedifhlkiffoaaDoorLE
import Derived.Test.YtkedifhlkiffoaaDoorLC
namespace Go.Proofs.YtkedifhlkiffoaaDoor
open Go.ChangeShapes Go.WideShapes Go.ChangeAt Go.RowKit
set_option linter.unusedVariables false
set_option linter.unusedSimpArgs false
attribute [local go_sem] Oper.semAt_some
/-- A token, as a value. -/
abbrev tokV (t : Tk) (p : Int) : Value := .agg #[.int .u8 t.k, .int .i64 t.n, .int .i64 p]
/-- A token lies in box p. -/
def TokBox (p : Nat) (k n q : Int) (W : World) : Prop := W.heap[p]? = some (.cells #[.int .u8 k, .int .i64 n, .int .i64 q] 35 (0, 0))
theorem TokBox.cells {p : Nat} {k n q : Int} {W : World} (hb : TokBox p k n q W) : W.cell? ⟨p, 0, none⟩ = some (.int .u8 k) ∧ W.cell? ⟨p, 1, none⟩ = some (.int .i64 n) ∧ W.cell? ⟨p, 2, none⟩ = some (.int .i64 q) := by
  refine ⟨?_, ?_, ?_⟩ <;> simp [World.cell?, show W.heap[p]? = _ from hb]
theorem TokBox.frozen {p : Nat} {k n q : Int} {W : World} (hb : TokBox p k n q W) (j : Nat) : W.frozen? ⟨p, j, none⟩ = false := by
  simp [World.frozen?, show W.heap[p]? = _ from hb]
theorem TokBox.lt {p : Nat} {k n q : Int} {W : World} (hb : TokBox p k n q W) : p < W.heap.size := (Array.getElem?_eq_some_iff.1 hb).1
theorem TokBox.later {p : Nat} {k n q : Int} {W W' : World} (hb : TokBox p k n q W) (h : Below W.heap.size W W') : TokBox p k n q W' := (h.block p hb.lt).trans hb
theorem TokBox.new (w : World) (k n q : Int) : TokBox w.heap.size k n q (w.alloc (.cells #[.int .u8 k, .int .i64 n, .int .i64 q] 35)) := World.alloc_heap_new w _
theorem set_block {W : World} {p j : Nat} {cs : Array Value} {t : TypeId} {fz : Nat × Nat} (h : W.heap[p]? = some (.cells cs t fz)) (v : Value) : (W.setCell ⟨p, j, none⟩ v).heap[p]? = some (.cells (cs.setIfInBounds j v) t fz) := by
  obtain ⟨hlt, hk⟩ := Array.getElem?_eq_some_iff.1 h
  show (W.heap.modify p _)[p]? = _
  rw [Array.getElem?_eq_getElem (by rw [Array.size_modify]; exact hlt), Array.getElem_modify_self, hk]
  rfl
theorem TokBox.set3 {p : Nat} {k n q : Int} {W : World} (hb : TokBox p k n q W) (k' n' q' : Int) : TokBox p k' n' q' (((W.setCell ⟨p, 0, none⟩ (.int .u8 k')).setCell ⟨p, 1, none⟩ (.int .i64 n')).setCell ⟨p, 2, none⟩ (.int .i64 q')) :=
  set_block (set_block (set_block hb _) _) _
theorem TokBox.ret {f : Func} {a : Act} {W : World} {p : Nat} {k n q : Int} {u : Tmp} {Q : Ending → World → Prop} (hb : TokBox p k n q W) (hr : f.results = #[.cell u 35]) (hp : a.tmps.getD u undef = .pointer (some ⟨p, 0, none⟩)) (hd : a.defers = []) (h : Q (.returned (tokV ⟨k, n⟩ q)) W) : bodyPost Tryd.prog f Q .ret a W :=
  bodyPost_ret (v := tokV ⟨k, n⟩ q) (results_cell_row hr _ _ p 35 _ (0, 0) _ hp hb Tryd.underlying35 rfl (by kernel_rfl)) hd h
theorem readE_cases (l : Bs) : readE l = 0 ∨ readE l = 11 ∨ readE l = 12 := by
  unfold readE code
  repeat' split
  all_goals omega
set_option maxRecDepth 100000 in
set_option maxHeartbeats 1000000 in
theorem number_any (l : Bs) (w : World) (hl : l.length ≤ 3000) : Calls Tryd.prog 104 #[S l] w fun e w' => e = .returned (tokV (numT l) 0) ∧ Below w.heap.size w w' := by
  have hr := Lib.hid (read_any l (w.alloc (.cells #[.int .u8 0, .int .i64 0, .int .i64 0] 35)) hl)
  have hT0 := TokBox.new w 0 0 0
  have hB0 := (Below.refl w.heap.size w).alloc (Nat.le_refl _) (.cells #[.int .u8 0, .int .i64 0, .int .i64 0] 35)
  have hE := readE_cases l
  have hT : numT l = if readE l = 0 ∧ readN l ≤ 1099511627776 then ⟨1, readN l⟩ else ⟨6, 0⟩ := rfl
  generalize numT l = res at *
  generalize readE l = er at *
  generalize readN l = nr at *
  unfold S at *
  by_cases he : er = 0
  · subst he
    by_cases hn : nr ≤ 1099511627776
    · rw [if_pos ⟨rfl, hn⟩] at hT
      subst hT
      clear hE hl
      go_enter Tryd.func104, Tryd.ntmps104
      go_wp2
      refine wp_scope_jumps 0 (fun a' w' => False) (fun a' _ => 0) rfl ?_ (fun _ _ h => h.elim)
      go_wp2_with ((with_reducible refine hr.out.mono ?_); rintro e w' ⟨rfl, hb⟩; have hT1 := hT0.later hb; have hB1 := hB0.trans (hb.mono (by simp)); obtain ⟨c0, c1, c2⟩ := hT1.cells; have f0 := hT1.frozen 0; have f1 := hT1.frozen 1; have f2 := hT1.frozen 2; clear hr)
      rw [jump_ret]
      refine TokBox.ret (Q := fun e w' => e = .returned (tokV ⟨1, nr⟩ 0) ∧ Below w.heap.size w w') (hT1.set3 1 nr 0) rfl rfl rfl ⟨rfl, (((hB1.setCell (by simp) _).setCell (by simp) _).setCell (by simp) _)⟩
    · rw [if_neg (by omega)] at hT
      subst hT
      clear hE hl
      go_enter Tryd.func104, Tryd.ntmps104
      go_wp2
      refine wp_scope_jumps 0 (fun a' w' => Below w.heap.size w w' ∧ TokBox w.heap.size 0 0 0 w' ∧ ∃ (u0 u1 u3 u4 u5 u6 u7 u8 u9 u10 u11 u12 u13 u14 u15 u16 u17 u18 : Value), a' = { tmps := #[u0, u1, .pointer (some ⟨w.heap.size, 0, none⟩), u3, u4, u5, u6, u7, u8, u9, u10, u11, u12, u13, u14, u15, u16, u17, u18], defers := [] }) (fun a' _ => 0) rfl ?_ ?_
      · go_wp2_with ((with_reducible refine hr.out.mono ?_); rintro e w' ⟨rfl, hb⟩; have hT1 := hT0.later hb; have hB1 := hB0.trans (hb.mono (by simp)); obtain ⟨c0, c1, c2⟩ := hT1.cells; have f0 := hT1.frozen 0; have f1 := hT1.frozen 1; have f2 := hT1.frozen 2; clear hr)
        go_step3
        exact ⟨rfl, hB1, hT1, _, _, _, _, _, _, _, _, _, _, _, _, _, _, _, _, _, _, rfl⟩
      · rintro a' w' ⟨hB1, hT1, u0, u1, u3, u4, u5, u6, u7, u8, u9, u10, u11, u12, u13, u14, u15, u16, u17, u18, rfl⟩
        obtain ⟨c0, c1, c2⟩ := hT1.cells; have f0 := hT1.frozen 0; have f1 := hT1.frozen 1; have f2 := hT1.frozen 2
        go_wp2
        rw [jump_ret]
        refine TokBox.ret (Q := fun e w' => e = .returned (tokV ⟨6, 0⟩ 0) ∧ Below w.heap.size w w') (hT1.set3 6 0 0) rfl rfl rfl ⟨rfl, (((hB1.setCell (by simp) _).setCell (by simp) _).setCell (by simp) _)⟩
  · have he2 : (er != 0) = true := by simpa using he
    have he3 : (er == 0) = false := by simpa using he
    rw [if_neg (by omega)] at hT
    subst hT
    clear hE hl
    go_enter Tryd.func104, Tryd.ntmps104
    go_wp2
    refine wp_scope_jumps 0 (fun a' w' => Below w.heap.size w w' ∧ TokBox w.heap.size 0 0 0 w' ∧ ∃ (u0 u1 u3 u4 u5 u6 u7 u8 u9 u10 u11 u12 u13 u14 u15 u16 u17 u18 : Value), a' = { tmps := #[u0, u1, .pointer (some ⟨w.heap.size, 0, none⟩), u3, u4, u5, u6, u7, u8, u9, u10, u11, u12, u13, u14, u15, u16, u17, u18], defers := [] }) (fun a' _ => 0) rfl ?_ ?_
    · go_wp2_with ((with_reducible refine hr.out.mono ?_); rintro e w' ⟨rfl, hb⟩; have hT1 := hT0.later hb; have hB1 := hB0.trans (hb.mono (by simp)); obtain ⟨c0, c1, c2⟩ := hT1.cells; have f0 := hT1.frozen 0; have f1 := hT1.frozen 1; have f2 := hT1.frozen 2; clear hr)
      go_step3
      exact ⟨rfl, hB1, hT1, _, _, _, _, _, _, _, _, _, _, _, _, _, _, _, _, _, _, rfl⟩
    · rintro a' w' ⟨hB1, hT1, u0, u1, u3, u4, u5, u6, u7, u8, u9, u10, u11, u12, u13, u14, u15, u16, u17, u18, rfl⟩
      obtain ⟨c0, c1, c2⟩ := hT1.cells; have f0 := hT1.frozen 0; have f1 := hT1.frozen 1; have f2 := hT1.frozen 2
      go_wp2
      rw [jump_ret]
      refine TokBox.ret (Q := fun e w' => e = .returned (tokV ⟨6, 0⟩ 0) ∧ Below w.heap.size w w') (hT1.set3 6 0 0) rfl rfl rfl ⟨rfl, (((hB1.setCell (by simp) _).setCell (by simp) _).setCell (by simp) _)⟩
theorem ne_bytes {a b : Bs} (h : a ≠ b) : ((⟨a.toArray⟩ : ByteArray).toList == b) = false := by
  rw [ByteArray.toList_eq]; simpa using h
set_option maxHeartbeats 400000 in
theorem word_any (l : Bs) (w : World) (hl : l.length ≤ 3000) (h0 : l ≠ []) (h : ∀ c ∈ l, inR 97 122 c = true) : Calls Tryd.prog 105 #[S l] w fun e w' => e = .returned (tokV (wordT l) 0) ∧ Below w.heap.size w w' := by
  unfold wordT
  have hsz : (⟨l.toArray⟩ : ByteArray).size = l.length := rfl
  by_cases h1 : l.length = 1
  · rw [if_pos h1]
    obtain ⟨c, rfl⟩ := List.length_eq_one_iff.1 h1
    have hc := (inR_iff _ _ _).1 (h c (by simp))
    obtain ⟨s, hs⟩ : ∃ s : ByteArray, (⟨[c].toArray⟩ : ByteArray) = s := ⟨_, rfl⟩
    have hz : s.size = 1 := by rw [← hs]; rfl
    have hlt : 0 < s.size := by omega
    have hcc : s[0]'hlt = c := by subst hs; rfl
    unfold S
    simp only [List.getElem?_cons_zero, Option.getD_some]
    clear h h0 hl
    rw [hs]
    clear hs hsz
    subst hcc
    have e : ((s[0].toNat : Int) - 97) % 256 = (s[0].toNat : Int) - 97 := by omega
    go_enter Tryd.func105, Tryd.ntmps105
    go_wp2
    exact TokBox.ret (Q := fun e w' => e = .returned (tokV _ 0) ∧ Below w.heap.size w w') (TokBox.new w _ _ _) rfl rfl rfl ⟨rfl, (Below.refl _ w).alloc (Nat.le_refl _) _⟩
  · rw [if_neg h1]
    have hi : ((l.length : Int) == 1) = false := by rw [beq_eq_false_iff_ne]; omega
    by_cases hw : l = withinL
    · rw [if_pos hw]
      subst hw
      unfold S withinL
      go_enter Tryd.func105, Tryd.ntmps105
      go_wp2
      exact TokBox.ret (Q := fun e w' => e = .returned (tokV _ 0) ∧ Below w.heap.size w w') (TokBox.new w _ _ _) rfl rfl rfl ⟨rfl, (Below.refl _ w).alloc (Nat.le_refl _) _⟩
    · rw [if_neg hw]
      have hw2 : ((⟨l.toArray⟩ : ByteArray).toList == [119, 105, 116, 104, 105, 110]) = false := ne_bytes hw
      unfold S
      clear h
      generalize (⟨l.toArray⟩ : ByteArray) = s at *
      go_enter Tryd.func105, Tryd.ntmps105
      go_wp2
      exact TokBox.ret (Q := fun e w' => e = .returned (tokV _ 0) ∧ Below w.heap.size w w') (TokBox.new w _ _ _) rfl rfl rfl ⟨rfl, (Below.refl _ w).alloc (Nat.le_refl _) _⟩
end Go.Proofs.YtkedifhlkiffoaaDoor
