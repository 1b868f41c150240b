/-
  Contracts of the document's own digit, letter, run, sign, ops, codes.
-/
import Derived.Test.YtkedifhlkiffoaaDoorLO
import Derived.Laws.ResultCell
namespace Go.Proofs.YtkedifhlkiffoaaDoor
open Go.ChangeShapes Go.WideShapes Go.ChangeAt Go.RowKit
set_option linter.unusedVariables false
set_option linter.unusedSimpArgs false
attribute [local go_sem] Oper.semAt_some
theorem refDigit_any (n : Int) (b : Bool) (w : World) (hb : (decide (48 ≤ n) && decide (n ≤ 57)) = b) : Calls Tryd.prog 93 #[.int .u8 n] w fun e w' => e = .returned (.bool b) ∧ w = w' := by
  subst hb
  by_cases h : 48 ≤ n
  · go_enter Tryd.func93, Tryd.ntmps93
    go_wp2
    go_ret
    exact ⟨by simp [h], rfl⟩
  · go_enter Tryd.func93, Tryd.ntmps93
    go_wp2
    go_ret
    exact ⟨by simp [h]; omega, rfl⟩
theorem refLetter_any (n : Int) (b : Bool) (w : World) (hb : (decide (97 ≤ n) && decide (n ≤ 122)) = b) : Calls Tryd.prog 94 #[.int .u8 n] w fun e w' => e = .returned (.bool b) ∧ w = w' := by
  subst hb
  by_cases h : 97 ≤ n
  · go_enter Tryd.func94, Tryd.ntmps94
    go_wp2
    go_ret
    exact ⟨by simp [h], rfl⟩
  · go_enter Tryd.func94, Tryd.ntmps94
    go_wp2
    go_ret
    exact ⟨by simp [h]; omega, rfl⟩
theorem run_end (a b : Int) (s : ByteArray) (p k : Nat) (hp : p + k ≤ s.size) (h : ∀ j (hj : p + j < s.size), j < k → inR a b s[p + j] = true) (he : p + k = s.size ∨ ∃ hk : p + k < s.size, inR a b s[p + k] = false) : (runL a b (s.data.toList.drop p)).length = k := by
  have hs : s.data.toList.length = s.size := rfl
  have hl : (s.data.toList.drop p).length = s.size - p := by rw [List.length_drop, hs]
  have hel : ∀ j (hj : j < (s.data.toList.drop p).length) (hj2 : p + j < s.size), (s.data.toList.drop p)[j] = s[p + j] := fun j hj hj2 => by rw [List.getElem_drop]; rfl
  rw [run_at a b _ k (by omega) (fun j hj hjk => by rw [hel j hj (by omega)]; exact h j (by omega) hjk) (by
    rcases he with he | ⟨hk, he⟩
    · exact .inl (by omega)
    · exact .inr ⟨by omega, by rw [hel k (by omega) hk]; exact he⟩), List.length_take]
  omega
set_option maxRecDepth 100000 in
set_option maxHeartbeats 2000000 in
theorem refRun_dig (s : ByteArray) (p : Nat) (w : World) (hs : s.size ≤ 3000) (hp : p ≤ s.size) :
    Calls Tryd.prog 75 #[.string s, .int .i64 p, .bool true] w fun e w' => e = .returned (.int .i64 ((runL 48 57 (s.data.toList.drop p)).length : Nat)) ∧ w = w' := by
  have HR := Lib.hid (run_end 48 57 s p)
  go_enter Tryd.func75, Tryd.ntmps75
  go_wp2
  go_loopw [7] (fun t wr => ∃ k : Nat, p + k ≤ s.size ∧ t = .int .i64 k ∧ wr = w ∧ Hid (∀ j (hj : p + j < s.size), j < k → inR 48 57 s[p + j] = true)) (fun t _ => s.size - (intOf t).toNat)
  case atStart => exact ⟨0, by omega, rfl, rfl, fun j hj h => by omega⟩
  case round =>
    obtain ⟨k, hk, rfl, rfl, hin⟩ := hrel
    have hw : wrap64 ((p : Int) + (k : Int)) = ((p + k : Nat) : Int) := by unfold wrap64; omega
    have hpk : (p : Int) + (k : Int) = ((p + k : Nat) : Int) := by omega
    obtain ⟨q, hq⟩ : ∃ q, p + k = q := ⟨_, rfl⟩
    rw [hq] at hw hk hpk
    by_cases hlt : q < s.size
    · have hlti : (q : Int) < (s.size : Int) := by omega
      have hb := Lib.hid (inR_iff 48 57 s[q])
      cases hc : inR 48 57 s[q]
      · have HD := Lib.hid (refDigit_any (s[q].toNat : Int) false wr hc)
        have hres := Lib.hid (HR.out k (by omega) hin.out (.inr ⟨by omega, by simp only [hq]; exact hc⟩))
        clear hb
        go_wp2_with fail
        (with_reducible refine HD.out.mono ?_)
        rintro e w2 ⟨rfl, rfl⟩
        go_wp2_with fail
        go_ret
        exact ⟨congrArg (fun z : Nat => Ending.returned (.int .i64 (z : Int))) hres.out.symm, rfl⟩
      · have HD := Lib.hid (refDigit_any (s[q].toNat : Int) true wr hc)
        clear hb
        go_wp2_with fail
        (with_reducible refine HD.out.mono ?_)
        rintro e w2 ⟨rfl, rfl⟩
        go_wp2_with fail
        refine ⟨⟨k + 1, by omega, by go_num, trivial, fun j hj h => ?_⟩, by simp [intOf]; omega⟩
        by_cases hjk : j = k
        · subst hjk; simp only [hq]; exact hc
        · exact hin.out j hj (by omega)
    · have hres := Lib.hid (HR.out k (by omega) hin.out (.inl (by omega)))
      have hlti : ¬ (q : Int) < (s.size : Int) := by omega
      go_wp2_with fail
      go_ret
      exact ⟨congrArg (fun z : Nat => Ending.returned (.int .i64 (z : Int))) hres.out.symm, rfl⟩
set_option maxRecDepth 100000 in
set_option maxHeartbeats 2000000 in
theorem refRun_low (s : ByteArray) (p : Nat) (w : World) (hs : s.size ≤ 3000) (hp : p ≤ s.size) :
    Calls Tryd.prog 75 #[.string s, .int .i64 p, .bool false] w fun e w' => e = .returned (.int .i64 ((runL 97 122 (s.data.toList.drop p)).length : Nat)) ∧ w = w' := by
  have HR := Lib.hid (run_end 97 122 s p)
  go_enter Tryd.func75, Tryd.ntmps75
  go_wp2
  go_loopw [7] (fun t wr => ∃ k : Nat, p + k ≤ s.size ∧ t = .int .i64 k ∧ wr = w ∧ Hid (∀ j (hj : p + j < s.size), j < k → inR 97 122 s[p + j] = true)) (fun t _ => s.size - (intOf t).toNat)
  case atStart => exact ⟨0, by omega, rfl, rfl, fun j hj h => by omega⟩
  case round =>
    obtain ⟨k, hk, rfl, rfl, hin⟩ := hrel
    have hw : wrap64 ((p : Int) + (k : Int)) = ((p + k : Nat) : Int) := by unfold wrap64; omega
    have hpk : (p : Int) + (k : Int) = ((p + k : Nat) : Int) := by omega
    obtain ⟨q, hq⟩ : ∃ q, p + k = q := ⟨_, rfl⟩
    rw [hq] at hw hk hpk
    by_cases hlt : q < s.size
    · have hlti : (q : Int) < (s.size : Int) := by omega
      have hb := Lib.hid (inR_iff 97 122 s[q])
      cases hc : inR 97 122 s[q]
      · have HD := Lib.hid (refLetter_any (s[q].toNat : Int) false wr hc)
        have hres := Lib.hid (HR.out k (by omega) hin.out (.inr ⟨by omega, by simp only [hq]; exact hc⟩))
        clear hb
        go_wp2_with fail
        (with_reducible refine HD.out.mono ?_)
        rintro e w2 ⟨rfl, rfl⟩
        go_wp2_with fail
        go_ret
        exact ⟨congrArg (fun z : Nat => Ending.returned (.int .i64 (z : Int))) hres.out.symm, rfl⟩
      · have HD := Lib.hid (refLetter_any (s[q].toNat : Int) true wr hc)
        clear hb
        go_wp2_with fail
        (with_reducible refine HD.out.mono ?_)
        rintro e w2 ⟨rfl, rfl⟩
        go_wp2_with fail
        refine ⟨⟨k + 1, by omega, by go_num, trivial, fun j hj h => ?_⟩, by simp [intOf]; omega⟩
        by_cases hjk : j = k
        · subst hjk; simp only [hq]; exact hc
        · exact hin.out j hj (by omega)
    · have hres := Lib.hid (HR.out k (by omega) hin.out (.inl (by omega)))
      have hlti : ¬ (q : Int) < (s.size : Int) := by omega
      go_wp2_with fail
      go_ret
      exact ⟨congrArg (fun z : Nat => Ending.returned (.int .i64 (z : Int))) hres.out.symm, rfl⟩
theorem sign_has (n : Int) (i : Nat) (hi : i < 12) (h : ((signsL[i]'hi).toNat : Int) = n) : isSign n = true := by
  unfold isSign
  rw [List.any_eq_true]
  exact ⟨signsL[i]'hi, List.getElem_mem _, by simpa using h⟩
theorem sign_not (n : Int) (h : ∀ i (hi : i < 12), ((signsL[i]'hi).toNat : Int) ≠ n) : isSign n = false := by
  unfold isSign
  rw [List.any_eq_false]
  intro c hc
  obtain ⟨i, hi, rfl⟩ := List.mem_iff_getElem.1 hc
  simpa using h i hi
set_option maxRecDepth 100000 in
set_option maxHeartbeats 2000000 in
theorem refSign_any (n : Int) (b : Bool) (w : World) (hb : Hid (isSign n = b)) : Calls Tryd.prog 52 #[.int .u8 n] w fun e w' => e = .returned (.bool b) ∧ w = w' := by
  have HS : Hid (∀ i (hi : i < 12), (((⟨#[33, 123, 125, 91, 93, 40, 41, 44, 59, 38, 43, 45]⟩ : ByteArray)[i]'hi).toNat : Int) = n → b = true) := fun i hi h => by rw [← hb.out]; exact sign_has n i hi h
  have HN : Hid ((∀ i (hi : i < 12), (((⟨#[33, 123, 125, 91, 93, 40, 41, 44, 59, 38, 43, 45]⟩ : ByteArray)[i]'hi).toNat : Int) ≠ n) → b = false) := fun h => by rw [← hb.out]; exact sign_not n h
  clear hb
  go_enter Tryd.func52, Tryd.ntmps52
  go_wp2
  go_loopw [3] (fun t wr => ∃ i : Nat, i ≤ 12 ∧ t = .int .i64 i ∧ wr = w ∧ Hid (∀ j (hj : j < 12), j < i → (((⟨#[33, 123, 125, 91, 93, 40, 41, 44, 59, 38, 43, 45]⟩ : ByteArray)[j]'hj).toNat : Int) ≠ n)) (fun t _ => 12 - (intOf t).toNat)
  case atStart => exact ⟨0, by omega, rfl, rfl, fun j hj h => by omega⟩
  case round =>
    obtain ⟨i, hi, rfl, rfl, hin⟩ := hrel
    by_cases hlt : i < 12
    · have hlti : (i : Int) < 12 := by omega
      by_cases hc : (((⟨#[33, 123, 125, 91, 93, 40, 41, 44, 59, 38, 43, 45]⟩ : ByteArray)[i]'hlt).toNat : Int) = n
      · have hbt := HS.out i hlt hc
        subst hbt
        have hcb : ((((⟨#[33, 123, 125, 91, 93, 40, 41, 44, 59, 38, 43, 45]⟩ : ByteArray)[i]'hlt).toNat : Int) == n) = true := by simpa using hc
        clear hc HS HN
        go_wp2_with fail
        go_ret
        exact ⟨rfl, rfl⟩
      · have hcb : ((((⟨#[33, 123, 125, 91, 93, 40, 41, 44, 59, 38, 43, 45]⟩ : ByteArray)[i]'hlt).toNat : Int) == n) = false := by simpa using hc
        have hc' := Lib.hid hc
        clear hc HS HN
        go_wp2_with fail
        refine ⟨⟨i + 1, by omega, by go_num, trivial, fun j hj h => ?_⟩, by simp [intOf]; omega⟩
        by_cases hji : j = i
        · subst hji; exact hc'.out
        · exact hin.out j hj (by omega)
    · obtain rfl : i = 12 := by omega
      have hbf := HN.out (fun j hj => hin.out j hj hj)
      subst hbf
      clear HS HN
      go_wp2_with fail
      go_ret
      exact ⟨rfl, rfl⟩
abbrev opsV : Value := .agg #[.string ⟨#[60, 61]⟩, .string ⟨#[33, 61]⟩, .string ⟨#[62, 61]⟩, .string ⟨#[60]⟩, .string ⟨#[61]⟩, .string ⟨#[62]⟩]
abbrev codesV : Value := .agg #[.int .u8 2, .int .u8 4, .int .u8 6, .int .u8 1, .int .u8 3, .int .u8 5]
theorem refOps_any (w : World) : Calls Tryd.prog 51 #[] w fun e w' => e = .returned opsV ∧ Below w.heap.size w w' := by
  go_enter Tryd.func51, Tryd.ntmps51
  go_wp2
  exact bodyPost_ret (v := opsV) (results_cell_row rfl _ _ w.heap.size 77 _ (0, 0) _ rfl (World.alloc_heap_new w _) Tryd.underlying77 rfl (by kernel_rfl)) rfl ⟨rfl, (Below.refl _ _).alloc (Nat.le_refl _) _⟩
theorem refCodes_any (w : World) : Calls Tryd.prog 50 #[] w fun e w' => e = .returned codesV ∧ Below w.heap.size w w' := by
  go_enter Tryd.func50, Tryd.ntmps50
  go_wp2
  exact bodyPost_ret (v := codesV) (results_cell_row rfl _ _ w.heap.size 75 _ (0, 0) _ rfl (World.alloc_heap_new w _) Tryd.underlying75 rfl (by kernel_rfl)) rfl ⟨rfl, (Below.refl _ _).alloc (Nat.le_refl _) _⟩
/-- A token in a box and a number, told. -/
theorem TokBox.ret2 {f : Func} {a : Act} {W : World} {p : Nat} {k n q : Int} {u r : Tmp} {m : Value} {Q : Ending → World → Prop} (hb : TokBox p k n q W) (hr : f.results = #[.cell u 35, .tmp r]) (hp : a.tmps.getD u undef = .pointer (some ⟨p, 0, none⟩)) (hm : a.tmps.getD r undef = m) (hd : a.defers = []) (h : Q (.returned (.tuple #[tokV ⟨k, n⟩ q, m])) W) : bodyPost Tryd.prog f Q .ret a W := by
  refine bodyPost_ret (v := .tuple #[tokV ⟨k, n⟩ q, m]) ?_ hd h
  rw [results_cell_tmp hr, hp, hm]
  simp [asAddr, run_loadVar_row W p 35 35 _ (0, 0) _ hb Tryd.underlying35 rfl (by kernel_rfl), Result.andThen]
end Go.Proofs.YtkedifhlkiffoaaDoor
