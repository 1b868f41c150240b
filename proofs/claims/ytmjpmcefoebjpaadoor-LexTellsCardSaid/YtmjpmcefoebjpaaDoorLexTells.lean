/-
  LexTells of stage 7, at every input: the law's call returns true, for any text and any token, where the ways of comparing lie as the program's text lays them; no other condition.
-/
import Derived.Test.YtmjpmcefoebjpaaDoorLU
import Derived.Test.YtmjpmcefoebjpaaDoorLP
import Derived.StillTailTactics
import Derived.Lib.SmallJoins
import Derived.Deep.RegionHeld3
import Derived.Deep.QuietTactic
import Derived.RegionTactic
import Derived.BigRegion
namespace Go.Proofs.YtmjpmcefoebjpaaDoor.lexTells
open Go.ChangeShapes Go.WideShapes Go.ChangeAt Go.RowKit Go.Joins
open Go.ChangeMaps (open_string shut_string)
set_option linter.unusedVariables false
set_option linter.unusedSimpArgs false
attribute [local go_sem] Oper.semAt_some
theorem nil_row (base : Nat) (w : World) : TksAt base (.slice none 0 0) [] w := World.ownsRow_nil _ _ _ _
/-- Both answer the same of a text: the same place, the same error, rows of the same tokens. -/
theorem both (s : ByteArray) : ∃ (p n : Int) (ts : List (Tk × Nat)), ts.length ≤ 4000 ∧
    (∀ w, OpsAt w → Calls Tryd.prog 9 #[.string s] w fun e w' => ∃ v, e = .returned (.tuple #[v, .int .i64 p, .int .i64 n]) ∧ TksAt w.heap.size v ts w' ∧ Below w.heap.size w w') ∧
    (∀ w, Calls Tryd.prog 10 #[.string s] w fun e w' => ∃ v, e = .returned (.tuple #[v, .int .i64 p, .int .i64 n]) ∧ TksAt w.heap.size v ts w' ∧ Below w.heap.size w w') := by
  by_cases hl : 2000 < s.size
  · refine ⟨2000, 91, [], by simp, fun w _ => (all_long s w hl).mono ?_, fun w => (refAll_long s w hl).mono ?_⟩
    · rintro e w' ⟨rfl, hb⟩; exact ⟨_, rfl, nil_row _ _, hb⟩
    · rintro e w' ⟨rfl, hb⟩; exact ⟨_, rfl, nil_row _ _, hb⟩
  have hl2 : s.size ≤ 2000 := by omega
  have hsl : s.data.toList.length = s.size := rfl
  have hbl := toks_le s.data.toList
  have hS : S s.data.toList = .string s := rfl
  by_cases hg : ∀ x ∈ toks s.data.toList, x.1.k ≠ 6
  · refine ⟨0, 0, toks s.data.toList, by omega, fun w ho => ?_, fun w => (refAll_short s w hl2).mono ?_⟩
    · rw [← hS]
      refine (lexAll_ok s.data.toList w (by omega) ho hg).mono ?_
      rintro e w' ⟨v, rfl, hr, hb⟩
      exact ⟨v, rfl, hr, hb⟩
    · rintro e w' (⟨_, ⟨v, rfl, hr⟩, hb⟩ | ⟨t, p, hm, h6, rfl, hb⟩)
      · exact ⟨v, rfl, hr, hb⟩
      · exact absurd h6 (hg _ hm)
  · have hx : ∃ x, x ∈ toks s.data.toList ∧ x.1.k = 6 := Classical.byContradiction fun hn => hg fun x hx h6 => hn ⟨x, hx, h6⟩
    obtain ⟨⟨t, p⟩, hm, h6⟩ := hx
    refine ⟨p, 70, [], by simp, fun w ho => ?_, fun w => (refAll_short s w hl2).mono ?_⟩
    · rw [← hS]
      refine (lexAll_bad s.data.toList w (by omega) ho t p hm h6).mono ?_
      rintro e w' ⟨rfl, hb⟩
      exact ⟨_, rfl, nil_row _ _, hb⟩
    · rintro e w' (⟨hn, _⟩ | ⟨t', p', hm', h6', rfl, hb⟩)
      · exact absurd h6 (hn _ hm)
      · obtain ⟨i, hi⟩ := List.mem_iff_getElem?.1 hm
        obtain ⟨k, hk⟩ := List.mem_iff_getElem?.1 hm'
        obtain ⟨e, hT⟩ := toks_some s.data.toList
        have e1 := hT.lastOf i _ hi (text6 h6)
        have e2 := hT.lastOf k _ hk (text6 h6')
        obtain rfl : i = k := by omega
        rw [hi] at hk
        cases hk
        exact ⟨_, rfl, nil_row _ _, hb⟩
set_option maxRecDepth 100000 in
set_option maxHeartbeats 1000000 in
theorem tells_long (s : ByteArray) (k n q : Int) (w : World) (ho : OpsAt w) (h : 3000 < s.size) :
    Calls Tryd.prog 3 #[.string s, .agg #[.int .u8 k, .int .i64 n, .int .i64 q]] w fun e w' => e = .returned (.bool true) ∧ Below w.heap.size w w' := by
  have hd : decide ((3000 : Int) < s.size) = true := by simp; omega
  have hx1 := TokBox.new w k n q
  have hB1 : Below w.heap.size w (w.alloc (.cells #[.int .u8 k, .int .i64 n, .int .i64 q] 23)) := (Below.refl _ _).alloc (Nat.le_refl _) _
  have ho1 := ho.later hB1
  go_enter Tryd.func3, Tryd.ntmps3
  go_wp2_with fail
  (with_reducible refine (wakes_any _ ho1).mono ?_)
  rintro e w1 ⟨rfl, hb⟩
  go_wp2
  go_ret
  exact ⟨rfl, hB1.trans (hb.mono hB1.size)⟩
set_option maxRecDepth 100000 in
set_option maxHeartbeats 4000000 in
theorem tells_short (s : ByteArray) (k n q : Int) (w : World) (ho : OpsAt w) (h : s.size ≤ 3000) (hf : fits n = true) :
    Calls Tryd.prog 3 #[.string s, .agg #[.int .u8 k, .int .i64 n, .int .i64 q]] w fun e w' => e = .returned (.bool true) ∧ Below w.heap.size w w' := by
  have hd : decide ((3000 : Int) < s.size) = false := by simp; omega
  obtain ⟨p, m, ts, hts, HA0, HB0⟩ := both s
  have HA := Lib.hid HA0
  have HB := Lib.hid HB0
  have HT := Lib.hid hts
  have HX := fun w ho => Lib.hid (lexText_any ⟨k, n⟩ q w ho hf)
  have HY := fun w => Lib.hid (refText_any ⟨k, n⟩ q w hf)
  clear HA0 HB0 hts h
  unfold tokV S at HX HY
  simp only at HX HY
  generalize (⟨(textT ⟨k, n⟩).toArray⟩ : ByteArray) = z at *
  have hx1 := TokBox.new w k n q
  have hB1 : Below w.heap.size w (w.alloc (.cells #[.int .u8 k, .int .i64 n, .int .i64 q] 23)) := (Below.refl _ _).alloc (Nat.le_refl _) _
  have ho1 := ho.later hB1
  go_enter Tryd.func3, Tryd.ntmps3
  go_wp2_with fail
  generalize (w.alloc (.cells #[.int .u8 k, .int .i64 n, .int .i64 q] 23)) = w1 at *
  (with_reducible refine (HA.out w1 ho1).mono ?_)
  rintro e w2 ⟨u, rfl, hr2, hb2⟩
  have hB2 := hB1.trans (hb2.mono hB1.size)
  have ho2 := ho1.later hb2
  have hx2 := hx1.later hb2
  clear hB1 ho1 hx1 hb2 HA
  go_wp2_with fail
  (with_reducible refine (HB.out w2).mono ?_)
  rintro e w3 ⟨v, rfl, hr3, hb3⟩
  have hB3 := hB2.trans (hb3.mono hB2.size)
  have hr2' := hr2.later hb3
  have ho3 := ho2.later hb3
  have hx3 := hx2.later hb3
  clear hB2 ho2 hx2 HB hr2
  have hd3 : Below w3.heap.size w3 w3.drew := (Below.refl _ _).drew
  have hBd := hB3.trans (hd3.mono hB3.size)
  have hod := ho3.later hd3
  have hxd := hx3.later hd3
  have hr2d := hr2'.later hd3
  have hr3d := hr3.later hd3
  clear hB3 ho3 hx3 hb3 hr2' hr3 hd3
  have hSd := hxd.cells
  go_upto_region 5 with fail
  go_cut [4] (fun t wx => t = .bool true ∧ Below w.heap.size w wx)
  case first =>
    go_region_held3 (fun w' => w'.cell? ⟨w.heap.size, 0, none⟩ = some (.int .u8 k) ∧ w'.cell? ⟨w.heap.size, 1, none⟩ = some (.int .i64 n) ∧ w'.cell? ⟨w.heap.size, 2, none⟩ = some (.int .i64 q))
      (first | with_reducible assumption | with_reducible exact hSd | with_reducible exact hS4 | with_reducible exact hS5 | with_reducible exact hS6 | with_reducible exact hS7)
      (first
      | ((with_reducible refine (tokens_same _ _ u v ts _ hr2d hr3d HT.out).mono ?_); rintro e w4 ⟨rfl, hb4⟩; have hB4 := hBd.trans (hb4.mono hBd.size); have ho4 := hod.later hb4; have hx4 := hxd.later hb4; have hS4 := hx4.cells)
      | ((with_reducible refine (HX _ ho4).out.mono ?_); rintro e w5 ⟨rfl, hb5⟩; have hB5 := hB4.trans (hb5.mono hB4.size); have ho5 := ho4.later hb5; have hx5 := hx4.later hb5; have hS5 := hx5.cells)
      | ((with_reducible refine (HY _).out.mono ?_); rintro e w6 ⟨rfl, hb6⟩; have hB6 := hB5.trans (hb6.mono hB5.size); have ho6 := ho5.later hb6; have hx6 := hx5.later hb6; have hS6 := hx6.cells)
      | ((with_reducible refine (wakes_any _ ho6).mono ?_); rintro e w7 ⟨rfl, hb7⟩; have hB7 := hB6.trans (hb7.mono hB6.size); have hS7 := (hx6.later hb7).cells))
    all_goals (go_wp2_with fail)
    all_goals go_meet
    all_goals first
      | exact ⟨rfl, hB7⟩
      | exact ⟨by simp, hB7⟩
  case rest =>
    obtain ⟨rfl, hbl⟩ := hcut
    go_wp2_with fail
    go_ret
    exact ⟨rfl, hbl⟩
theorem cells23 : Tryd.prog.cellsOf 23 = 3 := by kernel_rfl
theorem walk (s : ByteArray) (x0 x1 x2 : Int) (w : World) (ho : OpsAt w) (hs : s.size ≤ maxLen) (w0 : (Lit.int .u8 x0).wf = true) (w1 : (Lit.int .i64 x1).wf = true) (w2 : (Lit.int .i64 x2).wf = true) :
    Calls Tryd.prog 3 #[.string s, .agg #[.int .u8 x0, .int .i64 x1, .int .i64 x2]] w fun e w' => e = .returned (.bool true) ∧ Below w.heap.size w w' := by
  by_cases h : 3000 < s.size
  · exact tells_long s x0 x1 x2 w ho h
  · exact tells_short s x0 x1 x2 w ho (by omega) (fits_of_wf w1)
set_option maxRecDepth 100000 in
theorem lifted (os : Os) (started : os.Started) (H : Type) (enc : TypeId × Value → H) :
    ReturnsInHanded {} Tryd.checked os 3 .any (fun w args => (Rows.lexTellsSpec.pre enc Tryd.prog Tryd.f3 [] false w args ∧ laidMetH Tryd.prog laid1 w) ∧ sizedMet enc Tryd.prog Tryd.f3 (OpenSpec.ofChange Rows.lexTellsSpec) false w args)
      (Rows.lexTellsSpec.post enc Tryd.prog Tryd.f3 false true false false) := by
  refine returnsInHanded_of_change_and (C := Tryd.checked) (X := fun w _ => laidMetH Tryd.prog laid1 w) (fun _ _ _ hh h => h.of_heap hh) own started (by kernel_rfl) Tryd.func3
    (ChangeSpec.witness_shaped (enc := enc) (C := Tryd.checked) (os := os) (X := fun w _ => laidMetH Tryd.prog laid1 w) false (World.doorLaid Tryd.prog 400 os) #[.string ⟨#[]⟩, .agg #[.int .u8 0, .int .i64 0, .int .i64 0]] 8 rfl (World.shaped_of_RefB (by kernel_rfl) (by kernel_rfl)) (by kernel_rfl) (by kernel_rfl) (by kernel_rfl) (door_met os _)) ?_
  intro W base args ds gs before hval0 hW _ _ hL _
  have hval : ∀ (j : Nat) t v, Tryd.f3.params[j]? = some t → args[j]? = some v → Value.okWide Tryd.prog W .any base t v := hval0
  have hW' := hW
  obtain ⟨p, q, hA0, hV, rfl, hfz, hnd⟩ := hW
  have hA : DataW.TrodAll enc Tryd.prog W 0 (fun _ => true) true Tryd.f3.params.toList args.toList ds p := hA0
  rw [Tryd.params3] at hA hval
  obtain ⟨v0, vs0, d0, ds0, p0, q0, hargs, rfl, rfl, h0, r0⟩ := trodAll_cons hA
  obtain ⟨v1, vs1, d1, ds1, p1, q1, rfl, rfl, rfl, h1, r1⟩ := trodAll_cons r0
  obtain ⟨rfl, rfl, rfl⟩ := trodAll_nil r1
  obtain rfl : args = #[v0, v1] := by cases args; simp_all
  obtain ⟨rfl, rfl⟩ := trodVars_none hV
  obtain ⟨a0, rfl, rfl, rfl, w0⟩ := open_string Tryd.underlying9 (hval 0 9 v0 rfl rfl) h0
  have k1 := h1
  have lt1 : ∀ x ∈ p1, x.block < W.heap.size := by obtain ⟨m, hm⟩ := k1; exact DataW.trod_lt m _ _ _ hm
  obtain ⟨c10, c11, c12, y10, y11, y12, n1, rfl, -, -, hy10, hy11, hy12⟩ := open_agg3 Tryd.underlying23 (by kernel_rfl) cells23 (hval 1 23 v1 rfl rfl) h1
  obtain ⟨x10, e10, -, w10⟩ := DataW.trod_int Tryd.underlying5 hy10
  obtain ⟨x11, e11, -, w11⟩ := DataW.trod_int Tryd.underlying3 hy11
  obtain ⟨x12, e12, -, w12⟩ := DataW.trod_int Tryd.underlying3 hy12
  simp at e10 e11 e12
  subst e10 e11 e12
  have ho := ops_of_laid hL
  clear hA0 hval0
  refine (walk a0 x10 x11 x12 W ho w0 w10 w11 w12).mono fun e W' ⟨he, bel⟩ => ?_
  subst he
  exact ⟨_, rfl, _, _, _, [], _, [], hW', trodAll_mk1 (shut_bool Tryd.underlying4 _), (trodAll_cons_mk (shut_string Tryd.underlying9 w0) (trodAll_cons_mk (Below.trod laidOut (by kernel_rfl) (of_decide_eq_true (by kernel_rfl)) k1 bel lt1) trodAll_mk0)), rfl, bel.frame _, fun h => by cases h⟩

theorem over : Rows.lexTellsRow.holds Tryd.pinned (OpenSpec.ofChange Rows.lexTellsSpec) :=
  OpenClaim.holds_of_wide 3 Tryd.f3 rfl rfl rfl rfl rfl rfl rfl ⟨rfl, rfl, rfl, rfl, rfl⟩ rfl rfl rfl rfl rfl (by kernel_rfl) Tryd.func3 (by kernel_rfl)
    (of_decide_eq_true (by kernel_rfl)) (by unfold Func.isWrapper; first | (rw [if_pos (by decide +kernel)]; kernel_rfl) | (rw [if_neg (by decide +kernel)]; exact ⟨rfl, rfl⟩))
    (fun os started H enc _ => lifted os started H enc)

theorem proved : Rows.LexTellsCardSaid :=
  Claim7.holds_tied_plain_at .later [] [.data] true (true, "10c7faa58d7290b04509190263b05b32731b19e44df98b50f4fbbd66dc46bcf5") false
    over (fun _ h => by cases h) (by kernel_rfl) (fun _ h => by cases h) lexTells_row_tie rfl ⟨rfl, rfl⟩ (by kernel_rfl) rfl
    (fun f fn hf hfn => by
      obtain rfl : f = 3 := Option.some.inj ((show Tryd.prog.funcNamed "straggle/stragglelaw07.LexTells" = some 3 by kernel_rfl).symm.trans hf) |>.symm
      obtain rfl : fn = Tryd.f3 := (Option.some.inj (Tryd.func3.symm.trans hfn)).symm
      exact ⟨by kernel_rfl, fun j t ht => by
        rw [Tryd.params3] at ht
        have hm : t ∈ [9, 23] := by simpa using Array.mem_of_getElem? ht
        have hall : ([9, 23].all fun u => !Tryd.prog.wantsStandIn u) = true := by kernel_rfl
        exact (show Tryd.prog.wantsStandIn t = false by simpa using List.all_eq_true.1 hall t hm)⟩)
    (by kernel_rfl)
#print axioms proved
end Go.Proofs.YtmjpmcefoebjpaaDoor.lexTells
