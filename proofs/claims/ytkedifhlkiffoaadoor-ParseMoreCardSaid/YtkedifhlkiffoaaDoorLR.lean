/-
  Contract of the document's own next at every place of a text of at most 2000 bytes: the token that begins there, and how many bytes it has; 0, where none does.
-/
import Derived.Test.YtkedifhlkiffoaaDoorLQ
import Derived.Test.YtkedifhlkiffoaaDoorAA
namespace Go.Proofs.YtkedifhlkiffoaaDoor
open Go.ChangeShapes Go.WideShapes Go.ChangeAt Go.RowKit
set_option linter.unusedVariables false
set_option linter.unusedSimpArgs false
attribute [local go_sem] Oper.semAt_some
theorem ext_mid (l : Bs) (a n : Nat) (w : Bs) (h : (l.drop a).take n = w) : (⟨l.toArray⟩ : ByteArray).extract a (a + n) = ⟨w.toArray⟩ := by
  apply ByteArray.ext
  rw [ByteArray.data_extract]
  simp [List.extract, h]
/-- What stands at p, as next tells it. -/
def nextV (t : Tk) (p : Nat) : Value := if t.k = 6 then .tuple #[tokV ⟨0, 0⟩ 0, .int .i64 0] else .tuple #[tokV t p, .int .i64 ((textT t).length : Nat)]
def rest (s : ByteArray) (p : Nat) : Bs := s.data.toList.drop p
theorem mid_run (a b : Int) (s : ByteArray) (p n : Nat) (h : (runL a b (rest s p)).length = n) : s.extract p (p + n) = ⟨(runL a b (rest s p)).toArray⟩ := by
  subst h
  apply ByteArray.ext
  rw [ByteArray.data_extract]
  have := run_take a b (rest s p)
  have e : s.data = (s.data.toList).toArray := by simp
  rw [e]
  simp only [List.extract_toArray, List.extract_eq_take_drop, Nat.add_sub_cancel_left]
  unfold rest at this ⊢
  rw [← this]
theorem numT_text (ds : Bs) (hne : ds ≠ []) (h : ∀ c ∈ ds, inR 48 57 c = true) (h6 : (numT ds).k ≠ 6) : (textT (numT ds)).length = ds.length := by
  unfold numT at h6 ⊢
  split at h6
  · rename_i hn
    rw [if_pos hn]
    obtain ⟨h0, ht⟩ := read_digits ds hne h hn.1
    rw [textT1, if_pos ⟨h0, hn.2⟩, ht]
  · exact absurd rfl h6
set_option maxRecDepth 100000 in
set_option maxHeartbeats 4000000 in
theorem next_num (s : ByteArray) (p : Nat) (w : World) (hs : s.size ≤ 2000) (hp : p < s.size) (hd : runL 48 57 (rest s p) ≠ []) :
    Calls Tryd.prog 47 #[.string s, .int .i64 p] w fun e w' => e = .returned (nextV (numT (runL 48 57 (rest s p))) p) ∧ Below w.heap.size w w' := by
  have HR := Lib.hid (refRun_dig s p)
  have HX := Lib.hid (fun n h => mid_run 48 57 s p n h)
  have hm := numT_text _ hd (fun c hc => run_mem _ _ _ c hc)
  have hle : (runL 48 57 (rest s p)).length ≤ s.size - p := by
    have := run_len 48 57 (rest s p)
    unfold rest at this ⊢
    rw [List.length_drop] at this
    exact this
  have HD := Lib.hid (fun w => readr_any (runL 48 57 (rest s p)) w (by omega))
  have HV : Hid (numT (runL 48 57 (rest s p)) = if readE (runL 48 57 (rest s p)) = 0 ∧ readN (runL 48 57 (rest s p)) ≤ 1099511627776 then ⟨1, readN (runL 48 57 (rest s p))⟩ else ⟨6, 0⟩) := rfl
  change Hid (∀ w, s.size ≤ 3000 → p ≤ s.size → Calls Tryd.prog 75 #[.string s, .int .i64 p, .bool true] w fun e w' => e = .returned (.int .i64 ((runL 48 57 (rest s p)).length : Nat)) ∧ w = w') at HR
  unfold S at HD
  generalize runL 48 57 (rest s p) = ds at *
  generalize readE ds = re at *
  generalize readN ds = rn at *
  generalize numT ds = t at *
  obtain ⟨n, hn⟩ : ∃ n, ds.length = n := ⟨_, rfl⟩
  have hx := HX.out n hn
  have hpos : 0 < n := by rw [← hn]; exact List.length_pos_iff.2 hd
  rw [hn] at HR hm hle
  have hT1 : TokBox w.heap.size 0 0 0 (w.alloc (.cells #[.int .u8 0, .int .i64 0, .int .i64 0] 35)) := TokBox.new w 0 0 0
  have hB1 : Below w.heap.size w (w.alloc (.cells #[.int .u8 0, .int .i64 0, .int .i64 0] 35)) := (Below.refl _ _).alloc (Nat.le_refl _) _
  have hw : wrap64 ((p : Int) + (n : Int)) = ((p + n : Nat) : Int) := by unfold wrap64; omega
  have hpn : (p : Int) + (n : Int) = ((p + n : Nat) : Int) := by omega
  have hn0 : decide ((0 : Int) < (n : Int)) = true := by simp; omega
  obtain ⟨q, hq⟩ : ∃ q, p + n = q := ⟨_, rfl⟩
  rw [hq] at hw hpn hx
  have hpq : (p : Int) ≤ (q : Int) := by omega
  have hqs : (q : Int) ≤ (s.size : Int) := by omega
  have HQ := Lib.hid hq
  have HNN := Lib.hid hn
  have HR1 := Lib.hid (HR.out (w.alloc (.cells #[.int .u8 0, .int .i64 0, .int .i64 0] 35)) (by omega) (by omega))
  have HM := Lib.hid hm
  clear hn hq hd HX HR hm
  obtain ⟨V, hV⟩ : ∃ V, nextV t p = V := ⟨_, rfl⟩
  rw [hV]
  go_enter Tryd.func47, Tryd.ntmps47
  go_wp2_with fail
  generalize w.alloc (.cells #[.int .u8 0, .int .i64 0, .int .i64 0] 35) = w1 at *
  (with_reducible refine HR1.out.mono ?_)
  rintro e w2 ⟨rfl, rfl⟩
  clear HR1
  go_wp2_with fail
  (with_reducible refine (HD.out _).mono ?_)
  rintro e w2 ⟨rfl, rfl⟩
  have hz := hT1.cells
  obtain ⟨z0, z1, z2⟩ := hz
  have f0 := hT1.frozen 0
  have f1 := hT1.frozen 1
  have f2 := hT1.frozen 2
  by_cases he : re = 0
  · subst he
    by_cases hle : rn ≤ 1099511627776
    · have hdl : decide ((1099511627776 : Int) < rn) = false := by simp; omega
      have ht : t = ⟨1, rn⟩ := by rw [HV.out, if_pos ⟨rfl, hle⟩]
      subst ht
      have hlen := HM.out (by show (1 : Int) ≠ 6; decide)
      obtain rfl : V = .tuple #[tokV ⟨1, rn⟩ p, .int .i64 (n : Nat)] := by rw [← hV]; unfold nextV; rw [if_neg (by show ¬ (1 : Int) = 6; decide), hlen]
      clear hV
      go_wp2_with fail
      exact TokBox.ret2 (m := .int .i64 n) (Q := fun e w' => e = .returned (.tuple #[tokV ⟨1, rn⟩ p, .int .i64 (n : Nat)]) ∧ Below w.heap.size w w') (hT1.set3 1 rn p) rfl rfl rfl rfl ⟨rfl, (((hB1.setCell (by simp) _).setCell (by simp) _).setCell (by simp) _)⟩
    · have hdl : decide ((1099511627776 : Int) < rn) = true := by simp; omega
      have ht : t = ⟨6, 0⟩ := by rw [HV.out, if_neg (by omega)]
      subst ht
      obtain rfl : V = .tuple #[tokV ⟨0, 0⟩ 0, .int .i64 0] := by rw [← hV]; rfl
      clear hV
      go_wp2_with fail
      exact TokBox.ret2 (m := .int .i64 0) (Q := fun e w' => e = .returned (.tuple #[tokV ⟨0, 0⟩ 0, .int .i64 0]) ∧ Below w.heap.size w w') (hT1.set3 0 0 0) rfl rfl rfl rfl ⟨rfl, (((hB1.setCell (by simp) _).setCell (by simp) _).setCell (by simp) _)⟩
  · have hdl : (re == 0) = false := by simpa using he
    have ht : t = ⟨6, 0⟩ := by rw [HV.out, if_neg (by omega)]
    subst ht
    obtain rfl : V = .tuple #[tokV ⟨0, 0⟩ 0, .int .i64 0] := by rw [← hV]; rfl
    clear hV
    go_wp2_with fail
    exact TokBox.ret2 (m := .int .i64 0) (Q := fun e w' => e = .returned (.tuple #[tokV ⟨0, 0⟩ 0, .int .i64 0]) ∧ Below w.heap.size w w') (hT1.set3 0 0 0) rfl rfl rfl rfl ⟨rfl, (((hB1.setCell (by simp) _).setCell (by simp) _).setCell (by simp) _)⟩
set_option maxRecDepth 100000 in
set_option maxHeartbeats 4000000 in
theorem next_low (s : ByteArray) (p : Nat) (w : World) (hs : s.size ≤ 2000) (hp : p < s.size) (hd0 : runL 48 57 (rest s p) = []) (hd : runL 97 122 (rest s p) ≠ []) :
    Calls Tryd.prog 47 #[.string s, .int .i64 p] w fun e w' => e = .returned (nextV (wordT (runL 97 122 (rest s p))) p) ∧ Below w.heap.size w w' := by
  have HR0 : Hid (∀ w, Calls Tryd.prog 75 #[.string s, .int .i64 p, .bool true] w fun e w' => e = .returned (.int .i64 0) ∧ w = w') := fun w => by
    have := refRun_dig s p w (by omega) (by omega)
    change Calls Tryd.prog 75 #[.string s, .int .i64 p, .bool true] w (fun e w' => e = .returned (.int .i64 ((runL 48 57 (rest s p)).length : Nat)) ∧ w = w') at this
    rw [hd0] at this
    exact this
  have HR : Hid (∀ w, Calls Tryd.prog 75 #[.string s, .int .i64 p, .bool false] w fun e w' => e = .returned (.int .i64 ((runL 97 122 (rest s p)).length : Nat)) ∧ w = w') := fun w => refRun_low s p w (by omega) (by omega)
  have HX := Lib.hid (fun n h => mid_run 97 122 s p n h)
  have hle : (runL 97 122 (rest s p)).length ≤ s.size - p := by
    have := run_len 97 122 (rest s p)
    unfold rest at this ⊢
    rw [List.length_drop] at this
    exact this
  have hfst : (runL 97 122 (rest s p))[0]?.getD 0 = s[p] := by
    have h1 : (rest s p)[0]? = some s[p] := by
      unfold rest
      rw [List.getElem?_drop, Nat.add_zero, List.getElem?_eq_getElem (show p < s.data.toList.length from hp)]
      rfl
    obtain ⟨c, r, hr⟩ := List.exists_cons_of_ne_nil hd
    have h2 := run_pre 97 122 (rest s p)
    rw [hr] at h2 ⊢
    obtain ⟨x, hx⟩ := h2
    rw [← hx] at h1
    simpa using h1
  have hin : inR 97 122 s[p] = true := by
    obtain ⟨c, r, hr⟩ := List.exists_cons_of_ne_nil hd
    have h3 := run_mem 97 122 (rest s p) c (by rw [hr]; simp)
    rw [hr] at hfst
    simp at hfst
    rw [← hfst]; exact h3
  rw [inR_iff] at hin
  obtain ⟨V, hV⟩ : ∃ V, nextV (wordT (runL 97 122 (rest s p))) p = V := ⟨_, rfl⟩
  rw [hV]
  generalize runL 97 122 (rest s p) = ds at *
  obtain ⟨n, hn⟩ : ∃ n, ds.length = n := ⟨_, rfl⟩
  have hx := HX.out n hn
  have hpos : 0 < n := by rw [← hn]; exact List.length_pos_iff.2 hd
  rw [hn] at HR hle
  have hT1 : TokBox w.heap.size 0 0 0 (w.alloc (.cells #[.int .u8 0, .int .i64 0, .int .i64 0] 35)) := TokBox.new w 0 0 0
  have hB1 : Below w.heap.size w (w.alloc (.cells #[.int .u8 0, .int .i64 0, .int .i64 0] 35)) := (Below.refl _ _).alloc (Nat.le_refl _) _
  have hw : wrap64 ((p : Int) + (n : Int)) = ((p + n : Nat) : Int) := by unfold wrap64; omega
  have hpn : (p : Int) + (n : Int) = ((p + n : Nat) : Int) := by omega
  obtain ⟨q, hq⟩ : ∃ q, p + n = q := ⟨_, rfl⟩
  rw [hq] at hw hpn hx
  have hpq : (p : Int) ≤ (q : Int) := by omega
  have hqs : (q : Int) ≤ (s.size : Int) := by omega
  have hpi : (p : Int) < (s.size : Int) := by omega
  have HQ := Lib.hid hq
  have HNN := Lib.hid hn
  have HF := Lib.hid hfst
  clear hn hq hd hd0 HX hfst
  go_enter Tryd.func47, Tryd.ntmps47
  go_wp2_with fail
  generalize w.alloc (.cells #[.int .u8 0, .int .i64 0, .int .i64 0] 35) = w1 at *
  (with_reducible refine (HR0.out w1).mono ?_)
  rintro e w2 ⟨rfl, rfl⟩
  clear HR0
  go_wp2_with fail
  (with_reducible refine (HR.out w1).mono ?_)
  rintro e w2 ⟨rfl, rfl⟩
  have hz := hT1.cells
  obtain ⟨z0, z1, z2⟩ := hz
  have f0 := hT1.frozen 0
  have f1 := hT1.frozen 1
  have f2 := hT1.frozen 2
  by_cases h1 : n = 1
  · subst h1
    obtain rfl : V = .tuple #[tokV ⟨2, (s[p].toNat : Int) - 97⟩ p, .int .i64 1] := by
      rw [← hV]
      unfold wordT
      rw [if_pos HNN.out, HF.out]
      unfold nextV
      rw [if_neg (by show ¬ (2 : Int) = 6; decide), textT2, if_pos (by omega)]
      rfl
    clear hV
    have hw8 : IntKind.u8.wrap ((s[p].toNat : Int) - 97) = (s[p].toNat : Int) - 97 := by
      simp [IntKind.wrap, IntKind.signed, IntKind.bits]; omega
    have hw64 : wrap64 ((s[p].toNat : Int) - 97) = (s[p].toNat : Int) - 97 := by unfold wrap64; omega
    go_wp2_with fail
    exact TokBox.ret2 (m := .int .i64 1) (Q := fun e w' => e = .returned (.tuple #[tokV ⟨2, ((s[p].toNat : Int) - 97)⟩ p, .int .i64 1]) ∧ Below w.heap.size w w') (hT1.set3 2 ((s[p].toNat : Int) - 97) p) rfl rfl rfl rfl ⟨rfl, (((hB1.setCell (by simp) _).setCell (by simp) _).setCell (by simp) _)⟩
  · have hn1 : ((n : Int) == 1) = false := by simp; omega
    have hn2 : decide ((1 : Int) < (n : Int)) = true := by simp; omega
    by_cases hwi : ds = withinL
    · subst hwi
      obtain rfl : V = .tuple #[tokV ⟨3, 0⟩ p, .int .i64 (n : Nat)] := by
        rw [← hV, ← HNN.out]; rfl
      clear hV
      unfold withinL at *
      go_wp2_with fail
      exact TokBox.ret2 (m := .int .i64 (n : Nat)) (Q := fun e w' => e = .returned (.tuple #[tokV ⟨3, 0⟩ p, .int .i64 (n : Nat)]) ∧ Below w.heap.size w w') (hT1.set3 3 0 p) rfl rfl rfl rfl ⟨rfl, (((hB1.setCell (by simp) _).setCell (by simp) _).setCell (by simp) _)⟩
    · obtain rfl : V = .tuple #[tokV ⟨0, 0⟩ 0, .int .i64 0] := by
        rw [← hV]
        unfold wordT
        rw [if_neg (by rw [HNN.out]; exact h1), if_neg hwi]
        rfl
      clear hV
      have hne := ne_bytes hwi
      unfold withinL at hne
      have hne2 : (ds == [119, 105, 116, 104, 105, 110]) = false := by rw [beq_eq_false_iff_ne]; exact hwi
      go_wp2_with fail
      exact TokBox.ret2 (m := .int .i64 0) (Q := fun e w' => e = .returned (.tuple #[tokV ⟨0, 0⟩ 0, .int .i64 0]) ∧ Below w.heap.size w w') (hT1.set3 0 0 0) rfl rfl rfl rfl ⟨rfl, (((hB1.setCell (by simp) _).setCell (by simp) _).setCell (by simp) _)⟩
def opR : List Bs := [[60, 61], [33, 61], [62, 61], [60], [61], [62]]
theorem opHit (s : ByteArray) (p : Nat) (W : Bs) (n : Nat) (hn : W.length = n) (h : W <+: rest s p) (hw : W ≠ []) : p + n ≤ s.size ∧ s.extract p (p + n) = ⟨W.toArray⟩ := by
  have hl := h.length_le
  have hs : (rest s p).length = s.size - p := by unfold rest; rw [List.length_drop]; rfl
  have hp : 0 < W.length := List.length_pos_iff.2 hw
  refine ⟨by omega, ?_⟩
  have e := ext_mid s.data.toList p n W (by rw [← hn]; exact (List.prefix_iff_eq_take.1 h).symm)
  exact e
theorem opMiss (s : ByteArray) (p : Nat) (W : Bs) (n : Nat) (hn : W.length = n) (h : ¬ W <+: rest s p) : ((s.extract p (p + n)).toList == W) = false := by
  rw [beq_eq_false_iff_ne]
  intro he
  apply h
  rw [List.prefix_iff_eq_take, hn]
  have e := ext_mid s.data.toList p n _ rfl
  have e2 : s.extract p (p + n) = ⟨((s.data.toList.drop p).take n).toArray⟩ := e
  rw [e2, list_nil] at he
  exact he.symm
theorem pre1 (c : UInt8) (l : Bs) : [c] <+: l ↔ l.head? = some c := by
  cases l with
  | nil => simp
  | cons d r => simp [List.cons_prefix_cons, eq_comm]
theorem pre2 (c d : UInt8) (l : Bs) : [c, d] <+: l ↔ l.head? = some c ∧ l.tail.head? = some d := by
  cases l with
  | nil => simp
  | cons a r =>
    rw [List.cons_prefix_cons, pre1]
    simp [eq_comm]
theorem op_long (l : Bs) (i : Nat) (hi : i < 6) (hno : ∀ j (hj : j < 6), j < i → ¬ opR[j]'hj <+: l) (hy : opR[i]'hi <+: l) : longL l = [2, 4, 6, 1, 3, 5][i]'hi := by
  have m : ∀ j (hj : j < 6), j < i → ¬ opR[j]'hj <+: l := hno
  cases l with
  | nil =>
    exfalso
    have := hy.length_le
    rcases (by omega : i = 0 ∨ i = 1 ∨ i = 2 ∨ i = 3 ∨ i = 4 ∨ i = 5) with rfl | rfl | rfl | rfl | rfl | rfl <;> simp [opR] at this
  | cons a r =>
    rw [longL_cons]
    rcases (by omega : i = 0 ∨ i = 1 ∨ i = 2 ∨ i = 3 ∨ i = 4 ∨ i = 5) with rfl | rfl | rfl | rfl | rfl | rfl
    ·
      have := (pre2 60 61 _).1 hy; simp at this; simp [this]
    ·
      have := (pre2 33 61 _).1 hy; simp at this; simp [this]
    ·
      have := (pre2 62 61 _).1 hy; simp at this; simp [this]
    ·
      have h1 := (pre1 60 _).1 hy; simp at h1
      have h2 := fun h => m 0 (by omega) (by omega) ((pre2 60 61 _).2 h)
      simp [h1] at h2; simp [h1, h2]
    ·
      have h1 := (pre1 61 _).1 hy; simp at h1; simp [h1]
    ·
      have h1 := (pre1 62 _).1 hy; simp at h1
      have h2 := fun h => m 2 (by omega) (by omega) ((pre2 62 61 _).2 h)
      simp [h1] at h2; simp [h1, h2]
theorem op_none (l : Bs) (hno : ∀ j (hj : j < 6), ¬ opR[j]'hj <+: l) : longL l = 0 := by
  cases l with
  | nil => rfl
  | cons a r =>
    have h3 := fun h => hno 3 (by omega) ((pre1 60 _).2 h)
    have h4 := fun h => hno 4 (by omega) ((pre1 61 _).2 h)
    have h5 := fun h => hno 5 (by omega) ((pre1 62 _).2 h)
    have h1 := fun h => hno 1 (by omega) ((pre2 33 61 _).2 h)
    simp at h1 h3 h4 h5
    rw [longL_cons, if_neg h3, if_neg h4]
    by_cases h33 : a = 33
    · rw [if_pos h33, if_neg (h1 h33)]
    · rw [if_neg h33, if_neg h5]
theorem ix47_0 (w : World) : (Instr.index 77 opsV (.int .i64 0)).run Tryd.prog w = .ok (.string ⟨#[60, 61]⟩) w := by kernel_rfl
theorem ix45_0 (w : World) : (Instr.index 75 codesV (.int .i64 0)).run Tryd.prog w = .ok (.int .u8 2) w := by kernel_rfl
theorem ix47_1 (w : World) : (Instr.index 77 opsV (.int .i64 1)).run Tryd.prog w = .ok (.string ⟨#[33, 61]⟩) w := by kernel_rfl
theorem ix45_1 (w : World) : (Instr.index 75 codesV (.int .i64 1)).run Tryd.prog w = .ok (.int .u8 4) w := by kernel_rfl
theorem ix47_2 (w : World) : (Instr.index 77 opsV (.int .i64 2)).run Tryd.prog w = .ok (.string ⟨#[62, 61]⟩) w := by kernel_rfl
theorem ix45_2 (w : World) : (Instr.index 75 codesV (.int .i64 2)).run Tryd.prog w = .ok (.int .u8 6) w := by kernel_rfl
theorem ix47_3 (w : World) : (Instr.index 77 opsV (.int .i64 3)).run Tryd.prog w = .ok (.string ⟨#[60]⟩) w := by kernel_rfl
theorem ix45_3 (w : World) : (Instr.index 75 codesV (.int .i64 3)).run Tryd.prog w = .ok (.int .u8 1) w := by kernel_rfl
theorem ix47_4 (w : World) : (Instr.index 77 opsV (.int .i64 4)).run Tryd.prog w = .ok (.string ⟨#[61]⟩) w := by kernel_rfl
theorem ix45_4 (w : World) : (Instr.index 75 codesV (.int .i64 4)).run Tryd.prog w = .ok (.int .u8 3) w := by kernel_rfl
theorem ix47_5 (w : World) : (Instr.index 77 opsV (.int .i64 5)).run Tryd.prog w = .ok (.string ⟨#[62]⟩) w := by kernel_rfl
theorem ix45_5 (w : World) : (Instr.index 75 codesV (.int .i64 5)).run Tryd.prog w = .ok (.int .u8 5) w := by kernel_rfl
set_option maxRecDepth 100000 in
set_option maxHeartbeats 8000000 in
theorem next_rest (s : ByteArray) (p : Nat) (w : World) (hs : s.size ≤ 2000) (hp : p < s.size) (hd0 : runL 48 57 (rest s p) = []) (hd1 : runL 97 122 (rest s p) = []) :
    Calls Tryd.prog 47 #[.string s, .int .i64 p] w fun e w' => e = .returned (nextV (firstT (rest s p)) p) ∧ Below w.heap.size w w' := by
  have HR0 : Hid (∀ w, Calls Tryd.prog 75 #[.string s, .int .i64 p, .bool true] w fun e w' => e = .returned (.int .i64 0) ∧ w = w') := fun w => by
    have := refRun_dig s p w (by omega) (by omega)
    change Calls Tryd.prog 75 #[.string s, .int .i64 p, .bool true] w (fun e w' => e = .returned (.int .i64 ((runL 48 57 (rest s p)).length : Nat)) ∧ w = w') at this
    rw [hd0] at this
    exact this
  have HR : Hid (∀ w, Calls Tryd.prog 75 #[.string s, .int .i64 p, .bool false] w fun e w' => e = .returned (.int .i64 0) ∧ w = w') := fun w => by
    have := refRun_low s p w (by omega) (by omega)
    change Calls Tryd.prog 75 #[.string s, .int .i64 p, .bool false] w (fun e w' => e = .returned (.int .i64 ((runL 97 122 (rest s p)).length : Nat)) ∧ w = w') at this
    rw [hd1] at this
    exact this
  have HC : Hid (nextV (firstT (rest s p)) p = if 0 < longL (rest s p) then nextV ⟨4, longL (rest s p)⟩ p else nextV (if isSign (s[p].toNat : Int) then ⟨5, (s[p].toNat : Int)⟩ else ⟨6, 0⟩) p) := by
    have h1 : rest s p = s[p] :: rest s (p + 1) := by
      unfold rest
      rw [List.drop_eq_getElem_cons (show p < s.data.toList.length from hp)]
      rfl
    show _ = _
    have hf : firstT (rest s p) = if 0 < longL (rest s p) then ⟨4, longL (rest s p)⟩ else if isSign (s[p].toNat : Int) then ⟨5, (s[p].toNat : Int)⟩ else ⟨6, 0⟩ := by
      have k : ∀ a b, runL a b (rest s p) = [] → inR a b s[p] = false := fun a b h => by
        rw [h1, run_head] at h
        cases hi : inR a b s[p] with
        | false => rfl
        | true => rw [hi, if_pos rfl] at h; cases h
      rw [h1]
      exact first_plain _ _ (k 48 57 hd0) (k 97 122 hd1)
    rw [hf]
    split <;> rfl
  obtain ⟨V, hV0⟩ : ∃ V, nextV (firstT (rest s p)) p = V := ⟨_, rfl⟩
  rw [hV0]
  have hV := Lib.hid hV0
  clear hV0 hd0 hd1
  have HS := Lib.hid (fun (b : Bool) (hb : Hid (isSign (s[p].toNat : Int) = b)) (w : World) => refSign_any (s[p].toNat : Int) b w hb)
  have hT1 : TokBox w.heap.size 0 0 0 (w.alloc (.cells #[.int .u8 0, .int .i64 0, .int .i64 0] 35)) := TokBox.new w 0 0 0
  have hB1 : Below w.heap.size w (w.alloc (.cells #[.int .u8 0, .int .i64 0, .int .i64 0] 35)) := (Below.refl _ _).alloc (Nat.le_refl _) _
  have hpi : (p : Int) < (s.size : Int) := by omega
  go_enter Tryd.func47, Tryd.ntmps47
  go_wp2_with fail
  generalize w.alloc (.cells #[.int .u8 0, .int .i64 0, .int .i64 0] 35) = w1 at *
  (with_reducible refine (HR0.out w1).mono ?_)
  rintro e w2 ⟨rfl, rfl⟩
  clear HR0
  go_wp2_with fail
  (with_reducible refine (HR.out w1).mono ?_)
  rintro e w2 ⟨rfl, rfl⟩
  clear HR
  go_wp2_with fail
  go_loopw [9] (fun t wr => ∃ i : Nat, i ≤ 6 ∧ t = .int .i64 i ∧ Hid (∀ j (hj : j < 6), j < i → ¬ opR[j]'hj <+: rest s p) ∧ Below w1.heap.size w1 wr) (fun t _ => 6 - (intOf t).toNat)
  case atStart => exact ⟨0, by omega, rfl, fun j hj h => by omega, Below.refl _ _⟩
  case round =>
    obtain ⟨i, hi, rfl, hin, hbr⟩ := hrel
    by_cases hlt : i < 6
    · have h6 : i = 0 ∨ i = 1 ∨ i = 2 ∨ i = 3 ∨ i = 4 ∨ i = 5 := by omega
      rcases h6 with rfl | rfl | rfl | rfl | rfl | rfl
      · have HI := ix47_0
        have HJ := ix45_0
        by_cases hW : ([60, 61] : Bs) <+: rest s p
        · obtain ⟨hn, hx⟩ := opHit s p [60, 61] 2 rfl hW (by simp)
          have hlong := op_long (rest s p) 0 (by omega) hin.out hW
          obtain rfl : V = .tuple #[tokV ⟨4, 2⟩ p, .int .i64 2] := by
            rw [← hV.out, HC.out, if_pos (by rw [hlong]; show (0 : Int) < 2; decide), hlong]; rfl
          obtain ⟨q, hq⟩ : ∃ q, p + 2 = q := ⟨_, rfl⟩
          have hpn : (p : Int) + 2 = (q : Int) := by omega
          have hpq : (p : Int) ≤ (q : Int) := by omega
          have hqs : (q : Int) ≤ (s.size : Int) := by omega
          rw [hq] at hx
          have hgo : decide ((2 : Int) ≤ (s.size : Int) - (p : Int)) = true := by simp; omega
          clear HC hin hlong hV hW HS hq hn
          go_wp2_with fail
          (with_reducible refine (refOps_any wr).mono ?_)
          rintro e w2 ⟨rfl, hb2⟩
          go_wp2_with fail
          (with_reducible refine (refCodes_any w2).mono ?_)
          rintro e w3 ⟨rfl, hb3⟩
          have hbb := hbr.trans ((hb2.trans (hb3.mono hb2.size)).mono hbr.size)
          have hT3 := hT1.later hbb
          have hB3 := hB1.trans (hbb.mono hB1.size)
          obtain ⟨z0, z1, z2⟩ := hT3.cells
          have f0 := hT3.frozen 0
          have f1 := hT3.frozen 1
          have f2 := hT3.frozen 2
          go_wp2_with fail
          exact TokBox.ret2 (m := .int .i64 2) (Q := fun e w' => e = .returned (.tuple #[tokV ⟨4, 2⟩ p, .int .i64 2]) ∧ Below w.heap.size w w') (hT3.set3 4 2 p) rfl rfl rfl rfl ⟨rfl, (((hB3.setCell (by simp) _).setCell (by simp) _).setCell (by simp) _)⟩
        · have hmiss := opMiss s p [60, 61] 2 rfl hW
          have hnext : Hid (∀ j (hj : j < 6), j < 0 + 1 → ¬ opR[j]'hj <+: rest s p) := fun j hj h => by
            by_cases hji : j = 0
            · subst hji; exact hW
            · exact hin.out j hj (by omega)
          clear hin hW HC HS hV
          by_cases hn : p + 2 ≤ s.size
          · obtain ⟨q, hq⟩ : ∃ q, p + 2 = q := ⟨_, rfl⟩
            have hpn : (p : Int) + 2 = (q : Int) := by omega
            have hpq : (p : Int) ≤ (q : Int) := by omega
            have hqs : (q : Int) ≤ (s.size : Int) := by omega
            rw [hq] at hmiss
            have hgo : decide ((2 : Int) ≤ (s.size : Int) - (p : Int)) = true := by simp; omega
            clear hq hn
            go_wp2_with fail
            (with_reducible refine (refOps_any wr).mono ?_)
            rintro e w2 ⟨rfl, hb2⟩
            go_wp2_with fail
            exact ⟨⟨0 + 1, by omega, by go_num, hnext.out, hbr.trans (hb2.mono hbr.size)⟩, by simp [intOf]⟩
          · have hgo : decide ((2 : Int) ≤ (s.size : Int) - (p : Int)) = false := by simp; omega
            clear hn hmiss
            go_wp2_with fail
            (with_reducible refine (refOps_any wr).mono ?_)
            rintro e w2 ⟨rfl, hb2⟩
            go_wp2_with fail
            exact ⟨⟨0 + 1, by omega, by go_num, hnext.out, hbr.trans (hb2.mono hbr.size)⟩, by simp [intOf]⟩
      · have HI := ix47_1
        have HJ := ix45_1
        by_cases hW : ([33, 61] : Bs) <+: rest s p
        · obtain ⟨hn, hx⟩ := opHit s p [33, 61] 2 rfl hW (by simp)
          have hlong := op_long (rest s p) 1 (by omega) hin.out hW
          obtain rfl : V = .tuple #[tokV ⟨4, 4⟩ p, .int .i64 2] := by
            rw [← hV.out, HC.out, if_pos (by rw [hlong]; show (0 : Int) < 4; decide), hlong]; rfl
          obtain ⟨q, hq⟩ : ∃ q, p + 2 = q := ⟨_, rfl⟩
          have hpn : (p : Int) + 2 = (q : Int) := by omega
          have hpq : (p : Int) ≤ (q : Int) := by omega
          have hqs : (q : Int) ≤ (s.size : Int) := by omega
          rw [hq] at hx
          have hgo : decide ((2 : Int) ≤ (s.size : Int) - (p : Int)) = true := by simp; omega
          clear HC hin hlong hV hW HS hq hn
          go_wp2_with fail
          (with_reducible refine (refOps_any wr).mono ?_)
          rintro e w2 ⟨rfl, hb2⟩
          go_wp2_with fail
          (with_reducible refine (refCodes_any w2).mono ?_)
          rintro e w3 ⟨rfl, hb3⟩
          have hbb := hbr.trans ((hb2.trans (hb3.mono hb2.size)).mono hbr.size)
          have hT3 := hT1.later hbb
          have hB3 := hB1.trans (hbb.mono hB1.size)
          obtain ⟨z0, z1, z2⟩ := hT3.cells
          have f0 := hT3.frozen 0
          have f1 := hT3.frozen 1
          have f2 := hT3.frozen 2
          go_wp2_with fail
          exact TokBox.ret2 (m := .int .i64 2) (Q := fun e w' => e = .returned (.tuple #[tokV ⟨4, 4⟩ p, .int .i64 2]) ∧ Below w.heap.size w w') (hT3.set3 4 4 p) rfl rfl rfl rfl ⟨rfl, (((hB3.setCell (by simp) _).setCell (by simp) _).setCell (by simp) _)⟩
        · have hmiss := opMiss s p [33, 61] 2 rfl hW
          have hnext : Hid (∀ j (hj : j < 6), j < 1 + 1 → ¬ opR[j]'hj <+: rest s p) := fun j hj h => by
            by_cases hji : j = 1
            · subst hji; exact hW
            · exact hin.out j hj (by omega)
          clear hin hW HC HS hV
          by_cases hn : p + 2 ≤ s.size
          · obtain ⟨q, hq⟩ : ∃ q, p + 2 = q := ⟨_, rfl⟩
            have hpn : (p : Int) + 2 = (q : Int) := by omega
            have hpq : (p : Int) ≤ (q : Int) := by omega
            have hqs : (q : Int) ≤ (s.size : Int) := by omega
            rw [hq] at hmiss
            have hgo : decide ((2 : Int) ≤ (s.size : Int) - (p : Int)) = true := by simp; omega
            clear hq hn
            go_wp2_with fail
            (with_reducible refine (refOps_any wr).mono ?_)
            rintro e w2 ⟨rfl, hb2⟩
            go_wp2_with fail
            exact ⟨⟨1 + 1, by omega, by go_num, hnext.out, hbr.trans (hb2.mono hbr.size)⟩, by simp [intOf]⟩
          · have hgo : decide ((2 : Int) ≤ (s.size : Int) - (p : Int)) = false := by simp; omega
            clear hn hmiss
            go_wp2_with fail
            (with_reducible refine (refOps_any wr).mono ?_)
            rintro e w2 ⟨rfl, hb2⟩
            go_wp2_with fail
            exact ⟨⟨1 + 1, by omega, by go_num, hnext.out, hbr.trans (hb2.mono hbr.size)⟩, by simp [intOf]⟩
      · have HI := ix47_2
        have HJ := ix45_2
        by_cases hW : ([62, 61] : Bs) <+: rest s p
        · obtain ⟨hn, hx⟩ := opHit s p [62, 61] 2 rfl hW (by simp)
          have hlong := op_long (rest s p) 2 (by omega) hin.out hW
          obtain rfl : V = .tuple #[tokV ⟨4, 6⟩ p, .int .i64 2] := by
            rw [← hV.out, HC.out, if_pos (by rw [hlong]; show (0 : Int) < 6; decide), hlong]; rfl
          obtain ⟨q, hq⟩ : ∃ q, p + 2 = q := ⟨_, rfl⟩
          have hpn : (p : Int) + 2 = (q : Int) := by omega
          have hpq : (p : Int) ≤ (q : Int) := by omega
          have hqs : (q : Int) ≤ (s.size : Int) := by omega
          rw [hq] at hx
          have hgo : decide ((2 : Int) ≤ (s.size : Int) - (p : Int)) = true := by simp; omega
          clear HC hin hlong hV hW HS hq hn
          go_wp2_with fail
          (with_reducible refine (refOps_any wr).mono ?_)
          rintro e w2 ⟨rfl, hb2⟩
          go_wp2_with fail
          (with_reducible refine (refCodes_any w2).mono ?_)
          rintro e w3 ⟨rfl, hb3⟩
          have hbb := hbr.trans ((hb2.trans (hb3.mono hb2.size)).mono hbr.size)
          have hT3 := hT1.later hbb
          have hB3 := hB1.trans (hbb.mono hB1.size)
          obtain ⟨z0, z1, z2⟩ := hT3.cells
          have f0 := hT3.frozen 0
          have f1 := hT3.frozen 1
          have f2 := hT3.frozen 2
          go_wp2_with fail
          exact TokBox.ret2 (m := .int .i64 2) (Q := fun e w' => e = .returned (.tuple #[tokV ⟨4, 6⟩ p, .int .i64 2]) ∧ Below w.heap.size w w') (hT3.set3 4 6 p) rfl rfl rfl rfl ⟨rfl, (((hB3.setCell (by simp) _).setCell (by simp) _).setCell (by simp) _)⟩
        · have hmiss := opMiss s p [62, 61] 2 rfl hW
          have hnext : Hid (∀ j (hj : j < 6), j < 2 + 1 → ¬ opR[j]'hj <+: rest s p) := fun j hj h => by
            by_cases hji : j = 2
            · subst hji; exact hW
            · exact hin.out j hj (by omega)
          clear hin hW HC HS hV
          by_cases hn : p + 2 ≤ s.size
          · obtain ⟨q, hq⟩ : ∃ q, p + 2 = q := ⟨_, rfl⟩
            have hpn : (p : Int) + 2 = (q : Int) := by omega
            have hpq : (p : Int) ≤ (q : Int) := by omega
            have hqs : (q : Int) ≤ (s.size : Int) := by omega
            rw [hq] at hmiss
            have hgo : decide ((2 : Int) ≤ (s.size : Int) - (p : Int)) = true := by simp; omega
            clear hq hn
            go_wp2_with fail
            (with_reducible refine (refOps_any wr).mono ?_)
            rintro e w2 ⟨rfl, hb2⟩
            go_wp2_with fail
            exact ⟨⟨2 + 1, by omega, by go_num, hnext.out, hbr.trans (hb2.mono hbr.size)⟩, by simp [intOf]⟩
          · have hgo : decide ((2 : Int) ≤ (s.size : Int) - (p : Int)) = false := by simp; omega
            clear hn hmiss
            go_wp2_with fail
            (with_reducible refine (refOps_any wr).mono ?_)
            rintro e w2 ⟨rfl, hb2⟩
            go_wp2_with fail
            exact ⟨⟨2 + 1, by omega, by go_num, hnext.out, hbr.trans (hb2.mono hbr.size)⟩, by simp [intOf]⟩
      · have HI := ix47_3
        have HJ := ix45_3
        by_cases hW : ([60] : Bs) <+: rest s p
        · obtain ⟨hn, hx⟩ := opHit s p [60] 1 rfl hW (by simp)
          have hlong := op_long (rest s p) 3 (by omega) hin.out hW
          obtain rfl : V = .tuple #[tokV ⟨4, 1⟩ p, .int .i64 1] := by
            rw [← hV.out, HC.out, if_pos (by rw [hlong]; show (0 : Int) < 1; decide), hlong]; rfl
          obtain ⟨q, hq⟩ : ∃ q, p + 1 = q := ⟨_, rfl⟩
          have hpn : (p : Int) + 1 = (q : Int) := by omega
          have hpq : (p : Int) ≤ (q : Int) := by omega
          have hqs : (q : Int) ≤ (s.size : Int) := by omega
          rw [hq] at hx
          have hgo : decide ((1 : Int) ≤ (s.size : Int) - (p : Int)) = true := by simp; omega
          clear HC hin hlong hV hW HS hq hn
          go_wp2_with fail
          (with_reducible refine (refOps_any wr).mono ?_)
          rintro e w2 ⟨rfl, hb2⟩
          go_wp2_with fail
          (with_reducible refine (refCodes_any w2).mono ?_)
          rintro e w3 ⟨rfl, hb3⟩
          have hbb := hbr.trans ((hb2.trans (hb3.mono hb2.size)).mono hbr.size)
          have hT3 := hT1.later hbb
          have hB3 := hB1.trans (hbb.mono hB1.size)
          obtain ⟨z0, z1, z2⟩ := hT3.cells
          have f0 := hT3.frozen 0
          have f1 := hT3.frozen 1
          have f2 := hT3.frozen 2
          go_wp2_with fail
          exact TokBox.ret2 (m := .int .i64 1) (Q := fun e w' => e = .returned (.tuple #[tokV ⟨4, 1⟩ p, .int .i64 1]) ∧ Below w.heap.size w w') (hT3.set3 4 1 p) rfl rfl rfl rfl ⟨rfl, (((hB3.setCell (by simp) _).setCell (by simp) _).setCell (by simp) _)⟩
        · have hmiss := opMiss s p [60] 1 rfl hW
          have hnext : Hid (∀ j (hj : j < 6), j < 3 + 1 → ¬ opR[j]'hj <+: rest s p) := fun j hj h => by
            by_cases hji : j = 3
            · subst hji; exact hW
            · exact hin.out j hj (by omega)
          clear hin hW HC HS hV
          by_cases hn : p + 1 ≤ s.size
          · obtain ⟨q, hq⟩ : ∃ q, p + 1 = q := ⟨_, rfl⟩
            have hpn : (p : Int) + 1 = (q : Int) := by omega
            have hpq : (p : Int) ≤ (q : Int) := by omega
            have hqs : (q : Int) ≤ (s.size : Int) := by omega
            rw [hq] at hmiss
            have hgo : decide ((1 : Int) ≤ (s.size : Int) - (p : Int)) = true := by simp; omega
            clear hq hn
            go_wp2_with fail
            (with_reducible refine (refOps_any wr).mono ?_)
            rintro e w2 ⟨rfl, hb2⟩
            go_wp2_with fail
            exact ⟨⟨3 + 1, by omega, by go_num, hnext.out, hbr.trans (hb2.mono hbr.size)⟩, by simp [intOf]⟩
          · have hgo : decide ((1 : Int) ≤ (s.size : Int) - (p : Int)) = false := by simp; omega
            clear hn hmiss
            go_wp2_with fail
            (with_reducible refine (refOps_any wr).mono ?_)
            rintro e w2 ⟨rfl, hb2⟩
            go_wp2_with fail
            exact ⟨⟨3 + 1, by omega, by go_num, hnext.out, hbr.trans (hb2.mono hbr.size)⟩, by simp [intOf]⟩
      · have HI := ix47_4
        have HJ := ix45_4
        by_cases hW : ([61] : Bs) <+: rest s p
        · obtain ⟨hn, hx⟩ := opHit s p [61] 1 rfl hW (by simp)
          have hlong := op_long (rest s p) 4 (by omega) hin.out hW
          obtain rfl : V = .tuple #[tokV ⟨4, 3⟩ p, .int .i64 1] := by
            rw [← hV.out, HC.out, if_pos (by rw [hlong]; show (0 : Int) < 3; decide), hlong]; rfl
          obtain ⟨q, hq⟩ : ∃ q, p + 1 = q := ⟨_, rfl⟩
          have hpn : (p : Int) + 1 = (q : Int) := by omega
          have hpq : (p : Int) ≤ (q : Int) := by omega
          have hqs : (q : Int) ≤ (s.size : Int) := by omega
          rw [hq] at hx
          have hgo : decide ((1 : Int) ≤ (s.size : Int) - (p : Int)) = true := by simp; omega
          clear HC hin hlong hV hW HS hq hn
          go_wp2_with fail
          (with_reducible refine (refOps_any wr).mono ?_)
          rintro e w2 ⟨rfl, hb2⟩
          go_wp2_with fail
          (with_reducible refine (refCodes_any w2).mono ?_)
          rintro e w3 ⟨rfl, hb3⟩
          have hbb := hbr.trans ((hb2.trans (hb3.mono hb2.size)).mono hbr.size)
          have hT3 := hT1.later hbb
          have hB3 := hB1.trans (hbb.mono hB1.size)
          obtain ⟨z0, z1, z2⟩ := hT3.cells
          have f0 := hT3.frozen 0
          have f1 := hT3.frozen 1
          have f2 := hT3.frozen 2
          go_wp2_with fail
          exact TokBox.ret2 (m := .int .i64 1) (Q := fun e w' => e = .returned (.tuple #[tokV ⟨4, 3⟩ p, .int .i64 1]) ∧ Below w.heap.size w w') (hT3.set3 4 3 p) rfl rfl rfl rfl ⟨rfl, (((hB3.setCell (by simp) _).setCell (by simp) _).setCell (by simp) _)⟩
        · have hmiss := opMiss s p [61] 1 rfl hW
          have hnext : Hid (∀ j (hj : j < 6), j < 4 + 1 → ¬ opR[j]'hj <+: rest s p) := fun j hj h => by
            by_cases hji : j = 4
            · subst hji; exact hW
            · exact hin.out j hj (by omega)
          clear hin hW HC HS hV
          by_cases hn : p + 1 ≤ s.size
          · obtain ⟨q, hq⟩ : ∃ q, p + 1 = q := ⟨_, rfl⟩
            have hpn : (p : Int) + 1 = (q : Int) := by omega
            have hpq : (p : Int) ≤ (q : Int) := by omega
            have hqs : (q : Int) ≤ (s.size : Int) := by omega
            rw [hq] at hmiss
            have hgo : decide ((1 : Int) ≤ (s.size : Int) - (p : Int)) = true := by simp; omega
            clear hq hn
            go_wp2_with fail
            (with_reducible refine (refOps_any wr).mono ?_)
            rintro e w2 ⟨rfl, hb2⟩
            go_wp2_with fail
            exact ⟨⟨4 + 1, by omega, by go_num, hnext.out, hbr.trans (hb2.mono hbr.size)⟩, by simp [intOf]⟩
          · have hgo : decide ((1 : Int) ≤ (s.size : Int) - (p : Int)) = false := by simp; omega
            clear hn hmiss
            go_wp2_with fail
            (with_reducible refine (refOps_any wr).mono ?_)
            rintro e w2 ⟨rfl, hb2⟩
            go_wp2_with fail
            exact ⟨⟨4 + 1, by omega, by go_num, hnext.out, hbr.trans (hb2.mono hbr.size)⟩, by simp [intOf]⟩
      · have HI := ix47_5
        have HJ := ix45_5
        by_cases hW : ([62] : Bs) <+: rest s p
        · obtain ⟨hn, hx⟩ := opHit s p [62] 1 rfl hW (by simp)
          have hlong := op_long (rest s p) 5 (by omega) hin.out hW
          obtain rfl : V = .tuple #[tokV ⟨4, 5⟩ p, .int .i64 1] := by
            rw [← hV.out, HC.out, if_pos (by rw [hlong]; show (0 : Int) < 5; decide), hlong]; rfl
          obtain ⟨q, hq⟩ : ∃ q, p + 1 = q := ⟨_, rfl⟩
          have hpn : (p : Int) + 1 = (q : Int) := by omega
          have hpq : (p : Int) ≤ (q : Int) := by omega
          have hqs : (q : Int) ≤ (s.size : Int) := by omega
          rw [hq] at hx
          have hgo : decide ((1 : Int) ≤ (s.size : Int) - (p : Int)) = true := by simp; omega
          clear HC hin hlong hV hW HS hq hn
          go_wp2_with fail
          (with_reducible refine (refOps_any wr).mono ?_)
          rintro e w2 ⟨rfl, hb2⟩
          go_wp2_with fail
          (with_reducible refine (refCodes_any w2).mono ?_)
          rintro e w3 ⟨rfl, hb3⟩
          have hbb := hbr.trans ((hb2.trans (hb3.mono hb2.size)).mono hbr.size)
          have hT3 := hT1.later hbb
          have hB3 := hB1.trans (hbb.mono hB1.size)
          obtain ⟨z0, z1, z2⟩ := hT3.cells
          have f0 := hT3.frozen 0
          have f1 := hT3.frozen 1
          have f2 := hT3.frozen 2
          go_wp2_with fail
          exact TokBox.ret2 (m := .int .i64 1) (Q := fun e w' => e = .returned (.tuple #[tokV ⟨4, 5⟩ p, .int .i64 1]) ∧ Below w.heap.size w w') (hT3.set3 4 5 p) rfl rfl rfl rfl ⟨rfl, (((hB3.setCell (by simp) _).setCell (by simp) _).setCell (by simp) _)⟩
        · have hmiss := opMiss s p [62] 1 rfl hW
          have hnext : Hid (∀ j (hj : j < 6), j < 5 + 1 → ¬ opR[j]'hj <+: rest s p) := fun j hj h => by
            by_cases hji : j = 5
            · subst hji; exact hW
            · exact hin.out j hj (by omega)
          clear hin hW HC HS hV
          by_cases hn : p + 1 ≤ s.size
          · obtain ⟨q, hq⟩ : ∃ q, p + 1 = q := ⟨_, rfl⟩
            have hpn : (p : Int) + 1 = (q : Int) := by omega
            have hpq : (p : Int) ≤ (q : Int) := by omega
            have hqs : (q : Int) ≤ (s.size : Int) := by omega
            rw [hq] at hmiss
            have hgo : decide ((1 : Int) ≤ (s.size : Int) - (p : Int)) = true := by simp; omega
            clear hq hn
            go_wp2_with fail
            (with_reducible refine (refOps_any wr).mono ?_)
            rintro e w2 ⟨rfl, hb2⟩
            go_wp2_with fail
            exact ⟨⟨5 + 1, by omega, by go_num, hnext.out, hbr.trans (hb2.mono hbr.size)⟩, by simp [intOf]⟩
          · have hgo : decide ((1 : Int) ≤ (s.size : Int) - (p : Int)) = false := by simp; omega
            clear hn hmiss
            go_wp2_with fail
            (with_reducible refine (refOps_any wr).mono ?_)
            rintro e w2 ⟨rfl, hb2⟩
            go_wp2_with fail
            exact ⟨⟨5 + 1, by omega, by go_num, hnext.out, hbr.trans (hb2.mono hbr.size)⟩, by simp [intOf]⟩
    · obtain rfl : i = 6 := by omega
      have hlong := op_none (rest s p) (fun j hj => hin.out j hj hj)
      rw [hlong] at HC
      have hT2 := hT1.later hbr
      have hB2 := hB1.trans (hbr.mono hB1.size)
      obtain ⟨z0, z1, z2⟩ := hT2.cells
      have f0 := hT2.frozen 0
      have f1 := hT2.frozen 1
      have f2 := hT2.frozen 2
      cases hsg : isSign (s[p].toNat : Int)
      · obtain rfl : V = .tuple #[tokV ⟨0, 0⟩ 0, .int .i64 0] := by
          rw [← hV.out, HC.out, if_neg (by decide), hsg]; rfl
        have HS1 := Lib.hid (HS.out false (Lib.hid hsg))
        clear HC HS hV hin hlong
        go_wp2_with fail
        (with_reducible refine (HS1.out _).mono ?_)
        rintro e w2 ⟨rfl, rfl⟩
        go_wp2_with fail
        exact TokBox.ret2 (m := .int .i64 0) (Q := fun e w' => e = .returned (.tuple #[tokV ⟨0, 0⟩ 0, .int .i64 0]) ∧ Below w.heap.size w w') (hT2.set3 0 0 0) rfl rfl rfl rfl ⟨rfl, (((hB2.setCell (by simp) _).setCell (by simp) _).setCell (by simp) _)⟩
      · obtain rfl : V = .tuple #[tokV ⟨5, (s[p].toNat : Int)⟩ p, .int .i64 1] := by
          rw [← hV.out, HC.out, if_neg (by decide), hsg, if_pos rfl]
          unfold nextV
          rw [if_neg (by show ¬ (5 : Int) = 6; decide), textT5]
          unfold signT
          rw [hsg]; rfl
        have HS1 := Lib.hid (HS.out true (Lib.hid hsg))
        have hw64 : wrap64 (s[p].toNat : Int) = (s[p].toNat : Int) := by have := s[p].toNat_lt; unfold wrap64; omega
        clear HC HS hV hin hlong
        go_wp2_with fail
        (with_reducible refine (HS1.out _).mono ?_)
        rintro e w2 ⟨rfl, rfl⟩
        go_wp2_with fail
        exact TokBox.ret2 (m := .int .i64 1) (Q := fun e w' => e = .returned (.tuple #[tokV ⟨5, (s[p].toNat : Int)⟩ p, .int .i64 1]) ∧ Below w.heap.size w w') (hT2.set3 5 (s[p].toNat : Int) p) rfl rfl rfl rfl ⟨rfl, (((hB2.setCell (by simp) _).setCell (by simp) _).setCell (by simp) _)⟩
theorem next_any (s : ByteArray) (p : Nat) (w : World) (hs : s.size ≤ 2000) (hp : p < s.size) :
    Calls Tryd.prog 47 #[.string s, .int .i64 p] w fun e w' => e = .returned (nextV (firstT (rest s p)) p) ∧ Below w.heap.size w w' := by
  have hne : rest s p ≠ [] := fun e => by
    have := congrArg List.length e
    unfold rest at this
    rw [List.length_drop] at this
    have hs : s.data.toList.length = s.size := rfl
    simp only [List.length_nil] at this
    omega
  by_cases h1 : runL 48 57 (rest s p) = []
  · by_cases h2 : runL 97 122 (rest s p) = []
    · exact next_rest s p w hs hp h1 h2
    · have : firstT (rest s p) = wordT (runL 97 122 (rest s p)) := by
        unfold firstT
        rw [if_neg hne, if_neg (by rw [h1]; simp), if_pos h2]
      rw [this]
      exact next_low s p w hs hp h1 h2
  · have : firstT (rest s p) = numT (runL 48 57 (rest s p)) := by
      unfold firstT
      rw [if_neg hne, if_pos h1]
    rw [this]
    exact next_num s p w hs hp h1
end Go.Proofs.YtkedifhlkiffoaaDoor
