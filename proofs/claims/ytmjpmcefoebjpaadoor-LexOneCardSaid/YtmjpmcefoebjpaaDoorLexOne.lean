/-
  LexOne of stage 7, at every input: the law's call returns true, for any token, where the ways of comparing lie as the program's text lays them; no other condition.
-/
import Derived.Test.YtmjpmcefoebjpaaDoorLP
import Derived.StillTailTactics
import Derived.Deep.CutBlock
import Derived.Deep.QuietTactic
import Derived.Lib.SmallJoins
namespace Go.Proofs.YtmjpmcefoebjpaaDoor.lexOne
open Go.ChangeShapes Go.WideShapes Go.ChangeAt Go.RowKit Go.Joins
set_option linter.unusedVariables false
set_option linter.unusedSimpArgs false
attribute [local go_sem] Oper.semAt_some
/-- Has the token bytes? -/
def sm (t : Tk) : Bool := !(textT t).isEmpty
theorem wrap_byte (c : UInt8) : wrap64 (c.toNat : Int) = c.toNat := by
  have := c.toNat_lt
  unfold wrap64; omega
def sgn (n : Int) (i : Nat) : Bool := (signsL.take i).any (fun d => n == (d.toNat : Int))
theorem sgn_succ (n : Int) (i : Nat) (h : i < 12) : sgn n (i + 1) = (sgn n i || n == ((signsL[i]'h).toNat : Int)) := by
  unfold sgn
  rw [List.take_succ_eq_append_getElem (show i < signsL.length from h), List.any_append]
  simp only [List.any_cons, List.any_nil, Bool.or_false]
  rfl
theorem sm1 (n : Int) : sm ⟨1, n⟩ = (decide (0 ≤ n) && decide (n ≤ 1099511627776)) := by
  unfold sm
  rw [textT1]
  split
  · rename_i h
    have := (text_digits n h.1).2
    cases hx : textB n with
    | nil => exact absurd hx this
    | cons => simp [h.1, h.2]
  · rename_i h
    symm; simp; omega
theorem sm2 (n : Int) : sm ⟨2, n⟩ = (decide (0 ≤ n) && decide (n < 26)) := by
  unfold sm
  rw [textT2]
  split
  · rename_i h; symm; simp; omega
  · rename_i h; symm; simp; omega
theorem sm3 (n : Int) : sm ⟨3, n⟩ = (n == 0) := by
  unfold sm
  rw [textT3]
  split
  · rename_i h; subst h; rfl
  · rename_i h; symm; simpa using h
theorem sm4 (n : Int) : sm ⟨4, n⟩ = (decide (1 ≤ n) && decide (n < 7)) := by
  unfold sm
  rw [textT4]
  split
  · rename_i h
    by_cases h0 : n = 0
    · subst h0; rfl
    · have : opT n ≠ [] := by
        rcases op_cases n (by omega) h.2 with rfl | rfl | rfl | rfl | rfl | rfl <;> decide
      cases hx : opT n with
      | nil => exact absurd hx this
      | cons => symm; simp; omega
  · rename_i h; symm; simp; omega
theorem sm5 (n : Int) : sm ⟨5, n⟩ = sgn n 12 := by
  unfold sm
  rw [textT5]
  unfold signT
  have e : sgn n 12 = isSign n := by
    unfold sgn isSign
    rw [List.take_of_length_le (by decide)]
    have hc : (fun d : UInt8 => n == (d.toNat : Int)) = fun d => (d.toNat : Int) == n := by
      funext d
      rw [Bool.eq_iff_iff, beq_iff_eq, beq_iff_eq]
      exact eq_comm
    rw [hc]
  rw [e]
  cases isSign n <;> rfl
theorem sm6 (k n : Int) (h1 : k ≠ 1) (h2 : k ≠ 2) (h3 : k ≠ 3) (h4 : k ≠ 4) (h5 : k ≠ 5) : sm ⟨k, n⟩ = false := by
  unfold sm textT; simp [h1, h2, h3, h4, h5]
theorem text_len (t : Tk) : (textT t).length ≤ 21 := by
  by_cases h : textT t = []
  · simp [h]
  rcases text_cases t h with ⟨hk, h0, h1, e⟩ | ⟨hk, h0, h1, e⟩ | ⟨rfl, e⟩ | ⟨hk, h0, h1, e⟩ | ⟨hk, hs, e⟩
  · rw [e]; exact textB_len t.n (by rw [fits_iff]; omega)
  · simp [e]
  · rw [e]; decide
  · rw [e]; rcases op_cases t.n h0 h1 with h | h | h | h | h | h <;> rw [h] <;> decide
  · simp [e]
theorem one_toks (t : Tk) (h : textT t ≠ []) : toks (textT t) = [(t, 0), (⟨0, 0⟩, (textT t).length)] := by
  refine Toks.all (e := []) ?_
  refine Toks.step (b := 0) (x := textT t) (r := []) (p' := (textT t).length) rfl h rfl (by omega) (by simp [bl]) ?_
  exact Toks.fin (e := []) (textT t).length 0 (by simp) rfl
theorem all_one (t : Tk) (w : World) (ho : OpsAt w) (h : textT t ≠ []) :
    Calls Tryd.prog 9 #[S (textT t)] w fun e w' => ∃ g c, e = .returned (.tuple #[.slice (some ⟨g, 0, none⟩) 2 c, .int .i64 0, .int .i64 0]) ∧ Below w.heap.size w w' ∧
      w'.cell? ⟨g, 0, none⟩ = some (.int .u8 t.k) ∧ w'.cell? ⟨g, 1, none⟩ = some (.int .i64 t.n) ∧ w'.cell? ⟨g, 2, none⟩ = some (.int .i64 0) ∧ w'.cell? ⟨g, 5, none⟩ = some (.int .i64 ((textT t).length : Nat)) := by
  have hl := text_len t
  have ht := one_toks t h
  refine (lexAll_ok (textT t) w (by omega) ho (by
    rw [ht]
    intro x hx
    simp at hx
    rcases hx with rfl | rfl
    · intro h6; exact h (text6 h6)
    · show (0 : Int) ≠ 6; decide)).mono ?_
  rintro e w' ⟨v, rfl, hr, hb⟩
  rw [ht] at hr
  obtain ⟨g, c, rfl⟩ := tks_some hr (by simp)
  obtain ⟨a0, a1, a2⟩ := tks_cell hr (i := 0) (x := (t, 0)) rfl
  obtain ⟨b0, b1, b2⟩ := tks_cell hr (i := 1) (x := (⟨0, 0⟩, (textT t).length)) rfl
  exact ⟨g, c, rfl, hb, a0, a1, a2, b2⟩
theorem nempty (t : Tk) : (textT t).isEmpty = !(sm t) := by
  unfold sm; cases textT t <;> rfl
set_option maxRecDepth 100000 in
set_option maxHeartbeats 4000000 in
theorem one_any (t : Tk) (p : Int) (w : World) (ho : OpsAt w) (hf : fits t.n = true) :
    Calls Tryd.prog 6 #[tokV t p] w fun e w' => e = .returned (.bool true) ∧ Below w.heap.size w w' := by
  have hS : Hid (sm t = true → textT t ≠ []) := fun h e => by unfold sm at h; rw [e] at h; cases h
  have HA := Lib.hid (fun w ho h => all_one t w ho h)
  have HT := Lib.hid (fun w' ho' => lexText_any t p w' ho' hf)
  have hne := nempty t
  obtain ⟨k, n⟩ := t
  unfold tokV at *
  unfold S at *
  have hb1 : Below w.heap.size w (w.alloc (.cells #[.int .u8 k, .int .i64 n, .int .i64 p] 23)) := (Below.refl _ _).alloc (Nat.le_refl _) _
  have hx1 : TokBox w.heap.size k n p (w.alloc (.cells #[.int .u8 k, .int .i64 n, .int .i64 p] 23)) := TokBox.new w k n p
  have ho1 := ho.later hb1
  obtain ⟨c0, c1, c2⟩ := hx1.cells
  go_enter Tryd.func6, Tryd.ntmps6
  go_wp2_with fail
  generalize w.alloc (.cells #[.int .u8 k, .int .i64 n, .int .i64 p] 23) = w1 at *
  (with_reducible refine (HT.out w1 ho1).mono ?_)
  rintro e w2 ⟨rfl, hb2⟩
  have hB2 := hb1.trans (hb2.mono hb1.size)
  have hx2 := hx1.later hb2
  have ho2 := ho1.later hb2
  clear c0 c1 c2 HT hx1 hb1 hb2 ho1
  obtain ⟨c0, c1, c2⟩ := hx2.cells
  go_upto_block 0 with fail
  go_cut [4] (fun t wx => t = .bool (sm ⟨k, n⟩) ∧ ∃ m, wx = w2.drewN m)
  case first =>
    clear HA hne hS
    by_cases h1 : k = 1
    · subst h1
      by_cases a1 : 0 ≤ n
      · go_wp2_with fail
        go_meet
        exact ⟨congrArg Value.bool (by rw [sm1]; simp [a1]), 0, rfl⟩
      · go_wp2_with fail
        go_meet
        exact ⟨congrArg Value.bool (by rw [sm1]; simp [a1]; omega), 0, rfl⟩
    have e1 := k_ne h1
    by_cases h2 : k = 2
    · subst h2
      by_cases a1 : 0 ≤ n
      · go_wp2_with fail
        go_meet
        exact ⟨congrArg Value.bool (by rw [sm2]; simp [a1]), 0, rfl⟩
      · go_wp2_with fail
        go_meet
        exact ⟨congrArg Value.bool (by rw [sm2]; simp [a1]; omega), 0, rfl⟩
    have e2 := k_ne h2
    by_cases h3 : k = 3
    · subst h3
      go_wp2_with fail
      go_meet
      exact ⟨congrArg Value.bool (sm3 n).symm, 0, rfl⟩
    have e3 := k_ne h3
    by_cases h4 : k = 4
    · subst h4
      by_cases a1 : 1 ≤ n
      · go_wp2_with fail
        go_meet
        exact ⟨congrArg Value.bool (by rw [sm4]; simp [a1]), 0, rfl⟩
      · go_wp2_with fail
        go_meet
        exact ⟨congrArg Value.bool (by rw [sm4]; simp [a1]; omega), 0, rfl⟩
    have e4 := k_ne h4
    by_cases h5 : k = 5
    · subst h5
      go_wp2_with fail
      go_loopw [4, 5] (fun t u wr => ∃ i : Nat, i ≤ 12 ∧ u = .int .i64 i ∧ t = .bool (sgn n i) ∧ ∃ m, wr = w2.drewN m) (fun t u _ => 12 - (intOf u).toNat)
      case atStart => exact ⟨0, by omega, rfl, rfl, 0, rfl⟩
      case round =>
        obtain ⟨i, hi, rfl, rfl, m, rfl⟩ := hrel
        by_cases hlt : i < 12
        · have hlti : (i : Int) < 12 := by omega
          have hs := Lib.hid (sgn_succ n i hlt)
          cases hk : sgn n i
          · rw [hk] at hs
            go_wp2_with fail
            go_quiet (fail)
            go_wp2_with fail
            exact ⟨⟨i + 1, by omega, by go_num, congrArg Value.bool (by rw [hs.out, wrap_byte]; rfl), m + nq, rfl⟩, by simp [intOf]; omega⟩
          · rw [hk] at hs
            go_wp2_with fail
            go_quiet (fail)
            go_wp2_with fail
            exact ⟨⟨i + 1, by omega, by go_num, congrArg Value.bool (by rw [hs.out]; rfl), m + nq, rfl⟩, by simp [intOf]; omega⟩
        · obtain rfl : i = 12 := by omega
          go_wp2_with fail
          go_meet
          exact ⟨congrArg Value.bool (sm5 n).symm, m, rfl⟩
    have e5 := k_ne h5
    go_wp2_with fail
    go_meet
    exact ⟨congrArg Value.bool (sm6 k n h1 h2 h3 h4 h5).symm, 0, rfl⟩
  case rest =>
    obtain ⟨rfl, m, rfl⟩ := hcut
    have hd2 : Below w2.heap.size w2 (w2.drewN m) := ⟨rfl, rfl, rfl, Nat.le_refl _, fun _ _ => rfl⟩
    have hB3 := hB2.trans (hd2.mono hB2.size)
    have hx3 := hx2.later hd2
    have ho3 := ho2.later hd2
    clear hB2 hx2 ho2 hd2 c0 c1 c2
    generalize w2.drewN m = w3 at *
    cases hs : sm ⟨k, n⟩
    · rw [hs] at hne
      simp only [Bool.not_false, Bool.not_true] at hne
      clear hS HA
      go_wp2_with fail
      (with_reducible refine (wakes_any w3 ho3).mono ?_)
      rintro e w4 ⟨rfl, hb4⟩
      go_wp2
      go_ret
      exact ⟨rfl, hB3.trans (hb4.mono hB3.size)⟩
    · rw [hs] at hne
      simp only [Bool.not_false, Bool.not_true] at hne
      have HA1 := Lib.hid (HA.out w3 ho3 (hS.out hs))
      clear hS HA
      go_wp2_with fail
      (with_reducible refine HA1.out.mono ?_)
      rintro e w4 ⟨g, c, rfl, hb4, a0, a1, a2, a3⟩
      have hB4 := hB3.trans (hb4.mono hB3.size)
      have hx4 := hx3.later hb4
      have ho4 := ho3.later hb4
      obtain ⟨c0, c1, c2⟩ := hx4.cells
      clear hB3 hb4 hx3 ho3 HA1
      go_wp2_with fail
      have hmx : Tryd.prog.follows .mixedOrders = true := by kernel_rfl
      refine wp_region_still_tail 42 hmx (by kernel_rfl) ?_
      change wpStill _ _ w4.drew _ _ _
      have hb5 : Below w4.heap.size w4 w4.drew := ⟨rfl, rfl, rfl, Nat.le_refl _, fun _ _ => rfl⟩
      have hB5 := hB4.trans (hb5.mono hB4.size)
      have ho5 := ho4.later hb5
      replace a0 := bcell hb5 a0
      replace a1 := bcell hb5 a1
      replace a2 := bcell hb5 a2
      replace a3 := bcell hb5 a3
      replace c0 := bcell hb5 c0
      replace c1 := bcell hb5 c1
      clear c2 hB4 hx4 ho4 hb5
      simp only [List.take_succ_cons, List.take_zero, List.drop_succ_cons, List.drop_zero]
      repeat still_step
      refine wpStill_nil ?_
      change wpList _ _ _ _ _ w4.drew
      generalize w4.drew = w5 at *
      go_wp2_with fail
      (with_reducible refine (wakes_any w5 ho5).mono ?_)
      rintro e w6 ⟨rfl, hb6⟩
      have hB6 := hB5.trans (hb6.mono hB5.size)
      clear hB5 a0 a1 a2 a3 c0 c1
      go_wp2
      go_ret
      exact ⟨rfl, hB6⟩
theorem cells23 : Tryd.prog.cellsOf 23 = 3 := by kernel_rfl
theorem walk (x0 x1 x2 : Int) (w : World) (ho : OpsAt w) (w0 : (Lit.int .u8 x0).wf = true) (w1 : (Lit.int .i64 x1).wf = true) (w2 : (Lit.int .i64 x2).wf = true) :
    Calls Tryd.prog 6 #[.agg #[.int .u8 x0, .int .i64 x1, .int .i64 x2]] w fun e w' => e = .returned (.bool true) ∧ Below w.heap.size w w' :=
  one_any ⟨x0, x1⟩ x2 w ho (fits_of_wf w1)
set_option maxRecDepth 100000 in
theorem lifted (os : Os) (started : os.Started) (H : Type) (enc : TypeId × Value → H) :
    ReturnsInHanded {} Tryd.checked os 6 .any (fun w args => (Rows.lexOneSpec.pre enc Tryd.prog Tryd.f6 [] false w args ∧ laidMetH Tryd.prog laid1 w) ∧ sizedMet enc Tryd.prog Tryd.f6 (OpenSpec.ofChange Rows.lexOneSpec) false w args)
      (Rows.lexOneSpec.post enc Tryd.prog Tryd.f6 false true false false) := by
  refine returnsInHanded_of_change_and (C := Tryd.checked) (X := fun w _ => laidMetH Tryd.prog laid1 w) (fun _ _ _ hh h => h.of_heap hh) own started (by kernel_rfl) Tryd.func6
    (ChangeSpec.witness_shaped (enc := enc) (C := Tryd.checked) (os := os) (X := fun w _ => laidMetH Tryd.prog laid1 w) false (World.doorLaid Tryd.prog 400 os) #[.agg #[.int .u8 0, .int .i64 0, .int .i64 0]] 8 rfl (World.shaped_of_RefB (by kernel_rfl) (by kernel_rfl)) (by kernel_rfl) (by kernel_rfl) (by kernel_rfl) (door_met os _)) ?_
  intro W base args ds gs before hval0 hW _ _ hL _
  have hval : ∀ (j : Nat) t v, Tryd.f6.params[j]? = some t → args[j]? = some v → Value.okWide Tryd.prog W .any base t v := hval0
  have hW' := hW
  obtain ⟨p, q, hA0, hV, rfl, hfz, hnd⟩ := hW
  have hA : DataW.TrodAll enc Tryd.prog W 0 (fun _ => true) true Tryd.f6.params.toList args.toList ds p := hA0
  rw [Tryd.params6] at hA hval
  obtain ⟨v0, vs0, d0, ds0, p0, q0, hargs, rfl, rfl, h0, r0⟩ := trodAll_cons hA
  obtain ⟨rfl, rfl, rfl⟩ := trodAll_nil r0
  obtain rfl : args = #[v0] := by cases args; simp_all
  obtain ⟨rfl, rfl⟩ := trodVars_none hV
  have k0 := h0
  have lt0 : ∀ x ∈ p0, x.block < W.heap.size := by obtain ⟨m, hm⟩ := k0; exact DataW.trod_lt m _ _ _ hm
  obtain ⟨c00, c01, c02, y00, y01, y02, n0, rfl, -, -, hy00, hy01, hy02⟩ := open_agg3 Tryd.underlying23 (by kernel_rfl) cells23 (hval 0 23 v0 rfl rfl) h0
  obtain ⟨x00, e00, -, w00⟩ := DataW.trod_int Tryd.underlying5 hy00
  obtain ⟨x01, e01, -, w01⟩ := DataW.trod_int Tryd.underlying3 hy01
  obtain ⟨x02, e02, -, w02⟩ := DataW.trod_int Tryd.underlying3 hy02
  simp at e00 e01 e02
  subst e00 e01 e02
  have ho := ops_of_laid hL
  clear hA0 hval0
  refine (walk x00 x01 x02 W ho w00 w01 w02).mono fun e W' ⟨he, bel⟩ => ?_
  subst he
  exact ⟨_, rfl, _, _, _, [], _, [], hW', trodAll_mk1 (shut_bool Tryd.underlying4 _), (trodAll_cons_mk (Below.trod laidOut (by kernel_rfl) (of_decide_eq_true (by kernel_rfl)) k0 bel lt0) trodAll_mk0), rfl, bel.frame _, fun h => by cases h⟩

theorem over : Rows.lexOneRow.holds Tryd.pinned (OpenSpec.ofChange Rows.lexOneSpec) :=
  OpenClaim.holds_of_wide 6 Tryd.f6 rfl rfl rfl rfl rfl rfl rfl ⟨rfl, rfl, rfl, rfl, rfl⟩ rfl rfl rfl rfl rfl (by kernel_rfl) Tryd.func6 (by kernel_rfl)
    (of_decide_eq_true (by kernel_rfl)) (by unfold Func.isWrapper; first | (rw [if_pos (by decide +kernel)]; kernel_rfl) | (rw [if_neg (by decide +kernel)]; exact ⟨rfl, rfl⟩))
    (fun os started H enc _ => lifted os started H enc)

theorem proved : Rows.LexOneCardSaid :=
  Claim7.holds_tied_plain_at .later [] [.data] true (true, "10c7faa58d7290b04509190263b05b32731b19e44df98b50f4fbbd66dc46bcf5") false
    over (fun _ h => by cases h) (by kernel_rfl) (fun _ h => by cases h) lexOne_row_tie rfl ⟨rfl, rfl⟩ (by kernel_rfl) rfl
    (fun f fn hf hfn => by
      obtain rfl : f = 6 := Option.some.inj ((show Tryd.prog.funcNamed "straggle/stragglelaw07.LexOne" = some 6 by kernel_rfl).symm.trans hf) |>.symm
      obtain rfl : fn = Tryd.f6 := (Option.some.inj (Tryd.func6.symm.trans hfn)).symm
      exact ⟨by kernel_rfl, fun j t ht => by
        rw [Tryd.params6] at ht
        have hm : t ∈ [23] := by simpa using Array.mem_of_getElem? ht
        have hall : ([23].all fun u => !Tryd.prog.wantsStandIn u) = true := by kernel_rfl
        exact (show Tryd.prog.wantsStandIn t = false by simpa using List.all_eq_true.1 hall t hm)⟩)
    (by kernel_rfl)
#print axioms proved
end Go.Proofs.YtmjpmcefoebjpaaDoor.lexOne
