/-
  LexParts of stage 7, at every input: the law's call returns true, for any text and any number, where the ways of comparing lie as the program's text lays them; no other condition.
-/
import Derived.Test.YtmjpmcefoebjpaaDoorLP
import Derived.Deep.QuietTactic
import Derived.RegionTactic
import Derived.BigRegion
namespace Go.Proofs.YtmjpmcefoebjpaaDoor.lexParts
open Go.ChangeShapes Go.WideShapes Go.ChangeAt Go.RowKit
open Go.ChangeMaps (open_string shut_string)
set_option linter.unusedVariables false
set_option linter.unusedSimpArgs false
attribute [local go_sem] Oper.semAt_some
def putIn (l : Bs) (p : Nat) : Bs := l.take p ++ 32 :: l.drop p
def partT (ts : List (Tk × Nat)) (k : Nat) : List (Tk × Nat) := ts.take k ++ far (ts.drop k)
theorem part_len (ts : List (Tk × Nat)) (k : Nat) (h : k ≤ ts.length) : (partT ts k).length = ts.length := by
  unfold partT far; simp; omega
theorem part_at (ts : List (Tk × Nat)) (k i : Nat) (x : Tk × Nat) (h : ts[i]? = some x) : (partT ts k)[i]? = some (if k ≤ i then (x.1, x.2 + 1) else x) := by
  have hi := (List.getElem?_eq_some_iff.1 h).1
  unfold partT far
  by_cases hk : k ≤ i
  · rw [if_pos hk, List.getElem?_append_right (by simp; omega), List.length_take, Nat.min_eq_left (by omega), List.getElem?_map, List.getElem?_drop, show k + (i - k) = i by omega, h]
    rfl
  · rw [if_neg hk, List.getElem?_append_left (by simp; omega), List.getElem?_take, if_pos (by omega), h]
theorem parts_pure (l : Bs) (h : ∀ x ∈ toks l, x.1.k ≠ 6) (k : Nat) (x : Tk × Nat) (hx : (toks l)[k]? = some x) :
    x.2 ≤ l.length ∧ toks (putIn l x.2) = partT (toks l) k ∧ ∀ y ∈ toks (putIn l x.2), y.1.k ≠ 6 := by
  have hw := toks_whole l h
  have h1 := hw.part k x hx
  rw [Nat.sub_zero] at h1
  have h2 : toks (putIn l x.2) = partT (toks l) k := h1.all
  refine ⟨by have := (hw.ge x (List.mem_of_getElem? hx)).2; omega, h2, fun y hy => ?_⟩
  rw [h2] at hy
  unfold partT far at hy
  rcases List.mem_append.1 hy with hy | hy
  · exact h y (List.mem_of_mem_take hy)
  · obtain ⟨z, hz, rfl⟩ := List.mem_map.1 hy
    exact h z (List.mem_of_mem_drop hz)
theorem rem_k (a : Int) (n : Nat) (h : 0 < n) (h2 : n ≤ 301) : ∃ k : Nat, k < n ∧ (wrap64 (a.tmod n + n)).tmod n = k := by
  have hb : -(n : Int) < a.tmod n ∧ a.tmod n < n := by
    rcases Int.le_total 0 a with ha | ha
    · rw [Int.tmod_eq_emod_of_nonneg ha]
      have := Int.emod_nonneg a (show (n : Int) ≠ 0 by omega)
      have := Int.emod_lt_of_pos a (show (0 : Int) < n by omega)
      omega
    · obtain ⟨b, rfl⟩ : ∃ b, a = -b := ⟨-a, by omega⟩
      rw [Int.neg_tmod, Int.tmod_eq_emod_of_nonneg (show 0 ≤ b by omega)]
      have := Int.emod_nonneg b (show (n : Int) ≠ 0 by omega)
      have := Int.emod_lt_of_pos b (show (0 : Int) < n by omega)
      omega
  have hw : wrap64 (a.tmod n + n) = a.tmod n + n := by unfold wrap64; omega
  rw [hw, Int.tmod_eq_emod_of_nonneg (by omega)]
  have h1 := Int.emod_nonneg (a.tmod n + n) (show (n : Int) ≠ 0 by omega)
  have h2 := Int.emod_lt_of_pos (a.tmod n + n) (show (0 : Int) < n by omega)
  exact ⟨((a.tmod n + n) % n).toNat, by omega, by omega⟩
theorem cat3 (l : Bs) (p : Nat) (h : p ≤ l.length) : (⟨l.toArray⟩ : ByteArray).extract 0 p ++ ⟨#[32]⟩ ++ (⟨l.toArray⟩ : ByteArray).extract p l.length = ⟨(putIn l p).toArray⟩ := by
  rw [ext_take l p h, ext_drop]
  apply ByteArray.ext
  rw [ByteArray.data_append, ByteArray.data_append]
  simp [putIn]
set_option maxRecDepth 100000 in
set_option maxHeartbeats 1000000 in
theorem parts_long (s : ByteArray) (at_ : Int) (w : World) (ho : OpsAt w) (h : 300 < s.size) :
    Calls Tryd.prog 5 #[.string s, .int .i64 at_] w fun e w' => e = .returned (.bool true) ∧ Below w.heap.size w w' := by
  have hd : decide ((300 : Int) < s.size) = true := by simp; omega
  go_enter Tryd.func5, Tryd.ntmps5
  go_wp2_with fail
  (with_reducible refine (wakes_any _ ho).mono ?_)
  rintro e w1 ⟨rfl, hb⟩
  go_wp2
  go_ret
  exact ⟨rfl, hb⟩
set_option maxRecDepth 100000 in
set_option maxHeartbeats 4000000 in
theorem parts_bad (l : Bs) (at_ : Int) (w : World) (ho : OpsAt w) (h : l.length ≤ 300) (t : Tk) (p : Nat) (ht : (t, p) ∈ toks l) (h6 : t.k = 6) :
    Calls Tryd.prog 5 #[S l, .int .i64 at_] w fun e w' => e = .returned (.bool true) ∧ Below w.heap.size w w' := by
  have hsz : (⟨l.toArray⟩ : ByteArray).size = l.length := rfl
  have hd : decide ((300 : Int) < l.length) = false := by simp; omega
  have HA := Lib.hid (lexAll_bad l w (by omega) ho t p ht h6)
  unfold S at *
  go_enter Tryd.func5, Tryd.ntmps5
  go_wp2_with fail
  (with_reducible refine HA.out.mono ?_)
  rintro e w1 ⟨rfl, hb1⟩
  have ho1 := ho.later hb1
  go_wp2_with fail
  (with_reducible refine (wakes_any w1 ho1).mono ?_)
  rintro e w2 ⟨rfl, hb2⟩
  go_wp2
  go_ret
  exact ⟨rfl, hb1.trans (hb2.mono hb1.size)⟩
set_option maxRecDepth 100000 in
set_option maxHeartbeats 4000000 in
theorem parts_ok (l : Bs) (at_ : Int) (w : World) (ho : OpsAt w) (h : l.length ≤ 300) (hat : fits at_ = true) (h6 : ∀ x ∈ toks l, x.1.k ≠ 6) :
    Calls Tryd.prog 5 #[S l, .int .i64 at_] w fun e w' => e = .returned (.bool true) ∧ Below w.heap.size w w' := by
  have hsz : (⟨l.toArray⟩ : ByteArray).size = l.length := rfl
  have hd : decide ((300 : Int) < l.length) = false := by simp; omega
  have HA := Lib.hid (lexAll_ok l w (by omega) ho h6)
  have hpos : 0 < (toks l).length := by unfold toks; simp [toksF]
  have hlen : (toks l).length ≤ 301 := by have := toks_le l; omega
  have HP := Lib.hid (parts_pure l h6)
  clear h6
  unfold S at *
  generalize toks l = ts at *
  go_enter Tryd.func5, Tryd.ntmps5
  go_wp2_with fail
  (with_reducible refine HA.out.mono ?_)
  rintro e w1 ⟨v, rfl, ht1, hb1⟩
  obtain ⟨g1, d1, rfl⟩ := tks_some ht1 hpos
  have ho1 := ho.later hb1
  obtain ⟨n, hn⟩ : ∃ n, ts.length = n := ⟨_, rfl⟩
  rw [hn] at hpos hlen ht1 ⊢
  have HN := Lib.hid hn
  clear hn
  have hn0 : ((n : Int) == 0) = false := by simp; omega
  have hn1 : ¬ (n : Int) = 0 := by omega
  go_upto_region 6 with fail
  go_cut [8] (fun t wx => ∃ k : Nat, k < n ∧ t = .int .i64 k ∧ wx = w1)
  case first =>
    go_wp2_with fail
    go_meet
    obtain ⟨k, hk, e⟩ := rem_k at_ n hpos hlen
    exact ⟨k, hk, congrArg _ e, rfl⟩
  case rest =>
    obtain ⟨k, hk, rfl, rfl⟩ := hcut
    obtain ⟨x, hx⟩ : ∃ x, ts[k]? = some x := ⟨_, List.getElem?_eq_getElem (by rw [HN.out]; exact hk)⟩
    obtain ⟨hxl, hus, hu6⟩ := HP.out k x hx
    have HU := Lib.hid hus
    have HC := Lib.hid (cat3 l x.2 hxl)
    have HB := Lib.hid (fun w ho => lexAll_ok (putIn l x.2) w (by unfold putIn; simp; omega) ho hu6)
    obtain ⟨k0, k1, k2⟩ := tks_cell ht1 hx
    have hki : (k : Int) < n := by omega
    have hd2 : decide ((l.length : Int) < (x.2 : Nat)) = false := by simp; omega
    have hxi : ((x.2 : Nat) : Int) ≤ (l.length : Int) := by omega
    have HPL : Hid ((partT ts k).length = n) := by show _ = _; rw [part_len ts k (by rw [HN.out]; omega), HN.out]
    clear hus hu6 HA
    unfold S at *
    go_upto_region 10 with fail
    go_cut [10, 12] (fun t u wx => ∃ g2 d2 b2, t = .slice (some ⟨g2, 0, none⟩) n d2 ∧ u = .int .i64 0 ∧ TksAt b2 (.slice (some ⟨g2, 0, none⟩) n d2) (partT ts k) wx ∧ Below wc.heap.size wc wx)
    case first =>
      have HC1 := HC.out
      clear HC HP HN k0 k1 k2 hd2 hn0 hn1 hd hki hx ht1 hsz
      go_wp2_with fail
      have HB1 := Lib.hid (HB.out wc.drew ho1)
      go_region_with ((with_reducible refine HB1.out.mono ?_); rintro e w2 ⟨v2, rfl, ht2, hb2⟩)
      all_goals
        have hB2 : Below wc.heap.size wc w2 := (Below.refl wc.heap.size wc).drew.trans hb2
        rw [HU.out] at ht2
        obtain ⟨g2, d2, rfl⟩ := tks_some ht2 (by rw [HPL.out]; exact hpos)
        rw [HPL.out] at ht2
        have HPL2 := HPL.out
        clear HC1 HB1 HB hb2
        go_wp2_with fail
        go_meet
        exact ⟨g2, d2, _, by rw [HPL2], rfl, ht2, hB2⟩
    case rest =>
      obtain ⟨g2, d2, b2, rfl, rfl, ht2, hb2⟩ := hcut
      have hB2 := hb1.trans (hb2.mono hb1.size)
      have ho2 := ho1.later hb2
      have ht1 := ht1.later hb2
      clear HB HC HU hx hxl hxi hb2 ho1 hb1 k0 k1 k2 hd2 HPL
      go_wp2_with fail
      have hn3 : n ≤ 4000 := by omega
      go_loopw [13] (fun t wr => ∃ i : Nat, i ≤ n ∧ t = .int .i64 i ∧ Below wc.heap.size wc wr) (fun t _ => n - (intOf t).toNat)
      case atStart => exact ⟨0, by omega, rfl, Below.refl _ _⟩
      case round =>
        obtain ⟨i, hi, rfl, hbr⟩ := hrel
        by_cases hlt : i < n
        · obtain ⟨x, hx⟩ : ∃ x, ts[i]? = some x := ⟨_, List.getElem?_eq_getElem (by rw [HN.out]; exact hlt)⟩
          have hy := part_at ts k i x hx
          obtain ⟨k0, k1, k2⟩ := tks_cell (ht1.later hbr) hx
          obtain ⟨j0, j1, j2⟩ := tks_cell (ht2.later hbr) hy
          have hlti : (i : Int) < n := by omega
          have hx300 : x.2 ≤ 300 := by have := (HP.out i x hx).1; omega
          clear hx hy
          by_cases hki : k ≤ i
          · rw [if_pos hki] at j0 j1 j2
            have hkii : (k : Int) ≤ i := by omega
            have hwr : wrap64 ((x.2 : Int) + 1) = (x.2 : Int) + 1 := by unfold wrap64; omega
            rw [show ((x.2 + 1 : Nat) : Int) = (x.2 : Int) + 1 by omega] at j2
            go_wp2_with fail
            have hb9 : Below wr.heap.size wr (wr.alloc (.cells #[.int .u8 x.1.k, .int .i64 x.1.n, .int .i64 ((x.2 : Int) + 1)] 23)) := (Below.refl _ _).alloc (Nat.le_refl _) _
            obtain ⟨c0, c1, c2⟩ := (TokBox.new wr x.1.k x.1.n ((x.2 : Int) + 1)).cells
            replace j0 := bcell hb9 j0
            replace j1 := bcell hb9 j1
            replace j2 := bcell hb9 j2
            have hB9 := hbr.trans (hb9.mono hbr.size)
            clear k0 k1 k2 hbr hb9
            generalize wr.alloc (.cells #[.int .u8 x.1.k, .int .i64 x.1.n, .int .i64 ((x.2 : Int) + 1)] 23) = w9 at *
            go_quiet (fail)
            go_wp2
            have hBd : Below wc.heap.size wc (w9.drewN nq) := hB9.trans ⟨rfl, rfl, rfl, Nat.le_refl _, fun _ _ => rfl⟩
            exact ⟨⟨i + 1, by omega, by go_num, hBd⟩, by simp [intOf]; omega⟩
          · rw [if_neg hki] at j0 j1 j2
            have hkii : ¬ (k : Int) ≤ i := by omega
            go_wp2_with fail
            have hb9 : Below wr.heap.size wr (wr.alloc (.cells #[.int .u8 x.1.k, .int .i64 x.1.n, .int .i64 ((x.2 : Nat) : Int)] 23)) := (Below.refl _ _).alloc (Nat.le_refl _) _
            obtain ⟨c0, c1, c2⟩ := (TokBox.new wr x.1.k x.1.n ((x.2 : Nat) : Int)).cells
            replace j0 := bcell hb9 j0
            replace j1 := bcell hb9 j1
            replace j2 := bcell hb9 j2
            have hB9 := hbr.trans (hb9.mono hbr.size)
            clear k0 k1 k2 hbr hb9
            generalize wr.alloc (.cells #[.int .u8 x.1.k, .int .i64 x.1.n, .int .i64 ((x.2 : Nat) : Int)] 23) = w9 at *
            go_quiet (fail)
            go_wp2
            have hBd : Below wc.heap.size wc (w9.drewN nq) := hB9.trans ⟨rfl, rfl, rfl, Nat.le_refl _, fun _ _ => rfl⟩
            exact ⟨⟨i + 1, by omega, by go_num, hBd⟩, by simp [intOf]; omega⟩
        · obtain rfl : i = n := by omega
          have hB3 := hB2.trans (hbr.mono hB2.size)
          have ho3 := ho2.later hbr
          go_wp2_with fail
          (with_reducible refine (wakes_any wr ho3).mono ?_)
          rintro e w5 ⟨rfl, hb5⟩
          go_wp2
          go_ret
          exact ⟨rfl, hB3.trans (hb5.mono hB3.size)⟩
theorem walk (s : ByteArray) (at_ : Int) (w : World) (ho : OpsAt w) (hs : s.size ≤ maxLen) (hat : (Lit.int .i64 at_).wf = true) :
    Calls Tryd.prog 5 #[.string s, .int .i64 at_] w fun e w' => e = .returned (.bool true) ∧ Below w.heap.size w w' := by
  by_cases h : 300 < s.size
  · exact parts_long s at_ w ho h
  · have hl : s.data.toList.length ≤ 300 := by have : s.data.toList.length = s.size := rfl; omega
    by_cases h6 : ∀ x ∈ toks s.data.toList, x.1.k ≠ 6
    · exact parts_ok s.data.toList at_ w ho hl (fits_of_wf hat) h6
    · obtain ⟨x, hx⟩ : ∃ x, x ∈ toks s.data.toList ∧ x.1.k = 6 := by
        refine Classical.byContradiction fun hn => h6 fun x hx he => hn ⟨x, hx, he⟩
      exact parts_bad s.data.toList at_ w ho hl x.1 x.2 hx.1 hx.2
set_option maxRecDepth 100000 in
theorem lifted (os : Os) (started : os.Started) (H : Type) (enc : TypeId × Value → H) :
    ReturnsInHanded {} Tryd.checked os 5 .any (fun w args => (Rows.lexPartsSpec.pre enc Tryd.prog Tryd.f5 [] false w args ∧ laidMetH Tryd.prog laid1 w) ∧ sizedMet enc Tryd.prog Tryd.f5 (OpenSpec.ofChange Rows.lexPartsSpec) false w args)
      (Rows.lexPartsSpec.post enc Tryd.prog Tryd.f5 false true false false) := by
  refine returnsInHanded_of_change_and (C := Tryd.checked) (X := fun w _ => laidMetH Tryd.prog laid1 w) (fun _ _ _ hh h => h.of_heap hh) own started (by kernel_rfl) Tryd.func5
    (ChangeSpec.witness_shaped (enc := enc) (C := Tryd.checked) (os := os) (X := fun w _ => laidMetH Tryd.prog laid1 w) false (World.doorLaid Tryd.prog 400 os) #[.string ⟨#[]⟩, .int .i64 0] 8 rfl (World.shaped_of_RefB (by kernel_rfl) (by kernel_rfl)) (by kernel_rfl) (by kernel_rfl) (by kernel_rfl) (door_met os _)) ?_
  intro W base args ds gs before hval0 hW _ _ hL _
  have hval : ∀ (j : Nat) t v, Tryd.f5.params[j]? = some t → args[j]? = some v → Value.okWide Tryd.prog W .any base t v := hval0
  have hW' := hW
  obtain ⟨p, q, hA0, hV, rfl, hfz, hnd⟩ := hW
  have hA : DataW.TrodAll enc Tryd.prog W 0 (fun _ => true) true Tryd.f5.params.toList args.toList ds p := hA0
  rw [Tryd.params5] at hA hval
  obtain ⟨v0, vs0, d0, ds0, p0, q0, hargs, rfl, rfl, h0, r0⟩ := trodAll_cons hA
  obtain ⟨v1, vs1, d1, ds1, p1, q1, rfl, rfl, rfl, h1, r1⟩ := trodAll_cons r0
  obtain ⟨rfl, rfl, rfl⟩ := trodAll_nil r1
  obtain rfl : args = #[v0, v1] := by cases args; simp_all
  obtain ⟨rfl, rfl⟩ := trodVars_none hV
  obtain ⟨a0, rfl, rfl, rfl, w0⟩ := open_string Tryd.underlying9 (hval 0 9 v0 rfl rfl) h0
  obtain ⟨a1, rfl, rfl, rfl, w1⟩ := open_int Tryd.underlying3 (hval 1 3 v1 rfl rfl) h1
  have ho := ops_of_laid hL
  clear hA0 hval0
  refine (walk a0 a1 W ho w0 w1).mono fun e W' ⟨he, bel⟩ => ?_
  subst he
  exact ⟨_, rfl, _, _, _, [], _, [], hW', trodAll_mk1 (shut_bool Tryd.underlying4 _), (trodAll_cons_mk (shut_string Tryd.underlying9 w0) (trodAll_cons_mk (shut_int Tryd.underlying3 w1) trodAll_mk0)), rfl, bel.frame _, fun h => by cases h⟩

theorem over : Rows.lexPartsRow.holds Tryd.pinned (OpenSpec.ofChange Rows.lexPartsSpec) :=
  OpenClaim.holds_of_wide 5 Tryd.f5 rfl rfl rfl rfl rfl rfl rfl ⟨rfl, rfl, rfl, rfl, rfl⟩ rfl rfl rfl rfl rfl (by kernel_rfl) Tryd.func5 (by kernel_rfl)
    (of_decide_eq_true (by kernel_rfl)) (by unfold Func.isWrapper; first | (rw [if_pos (by decide +kernel)]; kernel_rfl) | (rw [if_neg (by decide +kernel)]; exact ⟨rfl, rfl⟩))
    (fun os started H enc _ => lifted os started H enc)

theorem proved : Rows.LexPartsCardSaid :=
  Claim7.holds_tied_plain_at .later [] [.data] true (true, "10c7faa58d7290b04509190263b05b32731b19e44df98b50f4fbbd66dc46bcf5") false
    over (fun _ h => by cases h) (by kernel_rfl) (fun _ h => by cases h) lexParts_row_tie rfl ⟨rfl, rfl⟩ (by kernel_rfl) rfl
    (fun f fn hf hfn => by
      obtain rfl : f = 5 := Option.some.inj ((show Tryd.prog.funcNamed "straggle/stragglelaw07.LexParts" = some 5 by kernel_rfl).symm.trans hf) |>.symm
      obtain rfl : fn = Tryd.f5 := (Option.some.inj (Tryd.func5.symm.trans hfn)).symm
      exact ⟨by kernel_rfl, fun j t ht => by
        rw [Tryd.params5] at ht
        have hm : t ∈ [9, 3] := by simpa using Array.mem_of_getElem? ht
        have hall : ([9, 3].all fun u => !Tryd.prog.wantsStandIn u) = true := by kernel_rfl
        exact (show Tryd.prog.wantsStandIn t = false by simpa using List.all_eq_true.1 hall t hm)⟩)
    (by kernel_rfl)
#print axioms proved
end Go.Proofs.YtmjpmcefoebjpaaDoor.lexParts
