/-
  LexBad of stage 7, at every input: the law's call returns true, for any text and any byte, where the ways of comparing lie as the program's text lays them; no other condition.
-/
import Derived.Test.YtmjpmcefoebjpaaDoorLP
namespace Go.Proofs.YtmjpmcefoebjpaaDoor.lexBad
open Go.ChangeShapes Go.WideShapes Go.ChangeAt Go.RowKit
open Go.ChangeMaps (open_string shut_string)
set_option linter.unusedVariables false
set_option linter.unusedSimpArgs false
attribute [local go_sem] Oper.semAt_some
def kn0 (c : Int) : Bool := c == 32 || (decide (48 ≤ c) && decide (c ≤ 57)) || (decide (97 ≤ c) && decide (c ≤ 122))
def s15 : Bs := [33, 123, 125, 91, 93, 40, 41, 44, 59, 38, 43, 45, 60, 62, 61]
def kn (c : Int) (i : Nat) : Bool := kn0 c || (s15.take i).any (fun d => c == (d.toNat : Int))
theorem kn_succ (c : Int) (i : Nat) (h : i < 15) : kn c (i + 1) = (kn c i || c == ((s15[i]'h).toNat : Int)) := by
  unfold kn
  rw [List.take_succ_eq_append_getElem (show i < s15.length from h), List.any_append, ← Bool.or_assoc]
  simp only [List.any_cons, List.any_nil, Bool.or_false]
  rfl
theorem kn_no (c : Int) (h0 : 0 ≤ c) (h1 : c < 256) (h : kn c 15 = false) : NoByte (u8 c) := by
  have hu := u8_nat c h0 h1
  unfold kn kn0 at h
  simp only [Bool.or_eq_false_iff, Bool.and_eq_false_iff, beq_eq_false_iff_ne, decide_eq_false_iff_not] at h
  obtain ⟨⟨⟨a1, a2⟩, a3⟩, a4⟩ := h
  have ne : ∀ d : UInt8, c ≠ (d.toNat : Int) → u8 c ≠ d := fun d hd he => hd (by rw [← he, hu])
  refine ⟨ne 32 a1, ?_, ?_, fun d hd => ne d (fun he => ?_)⟩
  · rw [u8_inR c h0 h1]; simp; omega
  · rw [u8_inR c h0 h1]; simp; omega
  · have := List.any_eq_false.1 a4 d (by rw [List.take_of_length_le (by decide)]; exact hd)
    simp [he] at this
theorem bad_pure (l : Bs) (h : ∀ x ∈ toks l, x.1.k ≠ 6) (c : UInt8) (hc : NoByte c) : ((⟨6, 0⟩ : Tk), l.length) ∈ toks (l ++ [c]) := by
  obtain ⟨us, hu⟩ := (toks_whole l h).bad c hc
  rw [hu.all]; simp
set_option maxRecDepth 100000 in
set_option maxHeartbeats 1000000 in
theorem bad_long (s : ByteArray) (c : Int) (w : World) (ho : OpsAt w) (h : 300 < s.size) :
    Calls Tryd.prog 7 #[.string s, .int .u8 c] w fun e w' => e = .returned (.bool true) ∧ Below w.heap.size w w' := by
  have hd : decide ((300 : Int) < s.size) = true := by simp; omega
  go_enter Tryd.func7, Tryd.ntmps7
  go_wp2_with fail
  (with_reducible refine (wakes_any _ ho).mono ?_)
  rintro e w1 ⟨rfl, hb⟩
  go_wp2
  go_ret
  exact ⟨rfl, hb⟩
set_option maxRecDepth 100000 in
set_option maxHeartbeats 4000000 in
theorem bad_short (l : Bs) (c : Int) (w : World) (ho : OpsAt w) (h : l.length ≤ 300) (h0 : 0 ≤ c) (h1 : c < 256) :
    Calls Tryd.prog 7 #[S l, .int .u8 c] w fun e w' => e = .returned (.bool true) ∧ Below w.heap.size w w' := by
  have hsz : (⟨l.toArray⟩ : ByteArray).size = l.length := rfl
  have hd : decide ((300 : Int) < l.length) = false := by simp; omega
  have HA := Lib.hid (fun w ho => lexAll_res l w (by omega) ho)
  have HB := Lib.hid (fun hk h6 w ho => lexAll_bad (l ++ [u8 c]) w (by simp; omega) ho ⟨6, 0⟩ l.length (bad_pure l h6 (u8 c) (kn_no c h0 h1 hk)) rfl)
  have hcat : ∀ x y : Bs, (⟨x.toArray⟩ : ByteArray) ++ ⟨y.toArray⟩ = ⟨(x ++ y).toArray⟩ := fun x y => by
    apply ByteArray.ext; rw [ByteArray.data_append]; simp
  have hcat1 := hcat l [u8 c]
  clear hcat
  unfold S at *
  go_enter Tryd.func7, Tryd.ntmps7
  go_upto_region 3 with fail
  go_cut [5] (fun t wx => t = .bool (kn0 c) ∧ wx = w)
  case first =>
    by_cases a1 : c = 32
    · have b1 : (c == 32) = true := by simp [a1]
      go_wp2_with fail
      go_meet
      exact ⟨by simp [kn0, b1], rfl⟩
    have b1 : (c == 32) = false := by simpa using a1
    by_cases a2 : 48 ≤ c
    · by_cases a3 : c ≤ 57
      · go_wp2_with fail
        go_meet
        exact ⟨by simp [kn0, b1, a2, a3], rfl⟩
      · by_cases a4 : 97 ≤ c
        · by_cases a5 : c ≤ 122
          · go_wp2_with fail
            go_meet
            exact ⟨by simp [kn0, b1, a2, a3, a4, a5], rfl⟩
          · go_wp2_with fail
            go_meet
            exact ⟨by simp [kn0, b1, a2, a3, a4, a5], rfl⟩
        · go_wp2_with fail
          go_meet
          exact ⟨by simp [kn0, b1, a2, a3, a4]; omega, rfl⟩
    · have a4 : ¬ 97 ≤ c := by omega
      go_wp2_with fail
      go_meet
      exact ⟨by simp [kn0, b1, a2, a4]; omega, rfl⟩
  case rest =>
    obtain ⟨rfl, rfl⟩ := hcut
    clear h0 h1
    go_wp2_with fail
    go_loopw [5, 6] (fun t u wr => ∃ i : Nat, i ≤ 15 ∧ u = .int .i64 i ∧ t = .bool (kn c i) ∧ wr = wc) (fun t u _ => 15 - (intOf u).toNat)
    case atStart => exact ⟨0, by omega, rfl, by simp [kn], rfl⟩
    case round =>
      obtain ⟨i, hi, rfl, rfl, rfl⟩ := hrel
      by_cases hlt : i < 15
      · have hlti : (i : Int) < 15 := by omega
        have hs := Lib.hid (kn_succ c i hlt)
        cases hk : kn c i
        · rw [hk] at hs
          go_wp2_with fail
          exact ⟨⟨i + 1, by omega, by go_num, congrArg Value.bool (by rw [hs.out]; rfl), trivial⟩, by simp [intOf]; omega⟩
        · rw [hk] at hs
          go_wp2_with fail
          exact ⟨⟨i + 1, by omega, by go_num, congrArg Value.bool (by rw [hs.out]; rfl), trivial⟩, by simp [intOf]; omega⟩
      · obtain rfl : i = 15 := by omega
        go_wp2_with fail
        (with_reducible refine (HA.out wr ho).mono ?_)
        rintro e w1 ⟨v, p, n, rfl, hb1, hn⟩
        have ho1 := ho.later hb1
        have HB1 := HB.out
        clear HA HB
        cases hk : kn c 15
        · rcases hn with ⟨rfl, h6⟩ | rfl
          · have HB2 := Lib.hid (HB1 hk h6)
            have hcv : (convert 35 9 (.slice (some ⟨w1.heap.size, 0, none⟩) 1 1)).run Tryd.prog (w1.alloc (.cells #[.int .u8 c] 5)) = .ok (.string ⟨#[u8 c]⟩) (w1.alloc (.cells #[.int .u8 c] 5)) := conv_new w1 [c] 1 rfl
            have hb2 : Below w1.heap.size w1 (w1.alloc (.cells #[.int .u8 c] 5)) := (Below.refl _ _).alloc (Nat.le_refl _) _
            have ho2 := ho1.later hb2
            have hB2 := hb1.trans (hb2.mono hb1.size)
            clear HB1 h6 hb1 hb2 ho1
            go_wp2_with fail
            generalize w1.alloc (.cells #[.int .u8 c] 5) = w2 at *
            (with_reducible refine (HB2.out w2 ho2).mono ?_)
            rintro e w3 ⟨rfl, hb3⟩
            have ho3 := ho2.later hb3
            have hB3 := hB2.trans (hb3.mono hB2.size)
            have hll : ((l.length : Int) == (l.length : Int)) = true := by simp
            clear HB2 hcat1
            go_wp2_with fail
            (with_reducible refine (wakes_any w3 ho3).mono ?_)
            rintro e w4 ⟨rfl, hb4⟩
            go_wp2
            go_ret
            exact ⟨rfl, hB3.trans (hb4.mono hB3.size)⟩
          · clear HB1
            go_wp2_with fail
            (with_reducible refine (wakes_any w1 ho1).mono ?_)
            rintro e w2 ⟨rfl, hb2⟩
            go_wp2
            go_ret
            exact ⟨rfl, hb1.trans (hb2.mono hb1.size)⟩
        · clear HB1
          go_wp2_with fail
          (with_reducible refine (wakes_any w1 ho1).mono ?_)
          rintro e w2 ⟨rfl, hb2⟩
          go_wp2
          go_ret
          exact ⟨rfl, hb1.trans (hb2.mono hb1.size)⟩
theorem walk (s : ByteArray) (c : Int) (w : World) (ho : OpsAt w) (hs : s.size ≤ maxLen) (hc : (Lit.int .u8 c).wf = true) :
    Calls Tryd.prog 7 #[.string s, .int .u8 c] w fun e w' => e = .returned (.bool true) ∧ Below w.heap.size w w' := by
  simp [Lit.wf, IntKind.min, IntKind.max, IntKind.signed, IntKind.bits] at hc
  by_cases h : 300 < s.size
  · exact bad_long s c w ho h
  · have := bad_short s.data.toList c w ho (by have : s.data.toList.length = s.size := rfl; omega) hc.1 (by omega)
    exact this
set_option maxRecDepth 100000 in
theorem lifted (os : Os) (started : os.Started) (H : Type) (enc : TypeId × Value → H) :
    ReturnsInHanded {} Tryd.checked os 7 .any (fun w args => (Rows.lexBadSpec.pre enc Tryd.prog Tryd.f7 [] false w args ∧ laidMetH Tryd.prog laid1 w) ∧ sizedMet enc Tryd.prog Tryd.f7 (OpenSpec.ofChange Rows.lexBadSpec) false w args)
      (Rows.lexBadSpec.post enc Tryd.prog Tryd.f7 false true false false) := by
  refine returnsInHanded_of_change_and (C := Tryd.checked) (X := fun w _ => laidMetH Tryd.prog laid1 w) (fun _ _ _ hh h => h.of_heap hh) own started (by kernel_rfl) Tryd.func7
    (ChangeSpec.witness_shaped (enc := enc) (C := Tryd.checked) (os := os) (X := fun w _ => laidMetH Tryd.prog laid1 w) false (World.doorLaid Tryd.prog 400 os) #[.string ⟨#[]⟩, .int .u8 0] 8 rfl (World.shaped_of_RefB (by kernel_rfl) (by kernel_rfl)) (by kernel_rfl) (by kernel_rfl) (by kernel_rfl) (door_met os _)) ?_
  intro W base args ds gs before hval0 hW _ _ hL _
  have hval : ∀ (j : Nat) t v, Tryd.f7.params[j]? = some t → args[j]? = some v → Value.okWide Tryd.prog W .any base t v := hval0
  have hW' := hW
  obtain ⟨p, q, hA0, hV, rfl, hfz, hnd⟩ := hW
  have hA : DataW.TrodAll enc Tryd.prog W 0 (fun _ => true) true Tryd.f7.params.toList args.toList ds p := hA0
  rw [Tryd.params7] at hA hval
  obtain ⟨v0, vs0, d0, ds0, p0, q0, hargs, rfl, rfl, h0, r0⟩ := trodAll_cons hA
  obtain ⟨v1, vs1, d1, ds1, p1, q1, rfl, rfl, rfl, h1, r1⟩ := trodAll_cons r0
  obtain ⟨rfl, rfl, rfl⟩ := trodAll_nil r1
  obtain rfl : args = #[v0, v1] := by cases args; simp_all
  obtain ⟨rfl, rfl⟩ := trodVars_none hV
  obtain ⟨a0, rfl, rfl, rfl, w0⟩ := open_string Tryd.underlying9 (hval 0 9 v0 rfl rfl) h0
  obtain ⟨a1, rfl, rfl, rfl, w1⟩ := open_int Tryd.underlying5 (hval 1 5 v1 rfl rfl) h1
  have ho := ops_of_laid hL
  clear hA0 hval0
  refine (walk a0 a1 W ho w0 w1).mono fun e W' ⟨he, bel⟩ => ?_
  subst he
  exact ⟨_, rfl, _, _, _, [], _, [], hW', trodAll_mk1 (shut_bool Tryd.underlying4 _), (trodAll_cons_mk (shut_string Tryd.underlying9 w0) (trodAll_cons_mk (shut_int Tryd.underlying5 w1) trodAll_mk0)), rfl, bel.frame _, fun h => by cases h⟩

theorem over : Rows.lexBadRow.holds Tryd.pinned (OpenSpec.ofChange Rows.lexBadSpec) :=
  OpenClaim.holds_of_wide 7 Tryd.f7 rfl rfl rfl rfl rfl rfl rfl ⟨rfl, rfl, rfl, rfl, rfl⟩ rfl rfl rfl rfl rfl (by kernel_rfl) Tryd.func7 (by kernel_rfl)
    (of_decide_eq_true (by kernel_rfl)) (by unfold Func.isWrapper; first | (rw [if_pos (by decide +kernel)]; kernel_rfl) | (rw [if_neg (by decide +kernel)]; exact ⟨rfl, rfl⟩))
    (fun os started H enc _ => lifted os started H enc)

theorem proved : Rows.LexBadCardSaid :=
  Claim7.holds_tied_plain_at .later [] [.data] true (true, "10c7faa58d7290b04509190263b05b32731b19e44df98b50f4fbbd66dc46bcf5") false
    over (fun _ h => by cases h) (by kernel_rfl) (fun _ h => by cases h) lexBad_row_tie rfl ⟨rfl, rfl⟩ (by kernel_rfl) rfl
    (fun f fn hf hfn => by
      obtain rfl : f = 7 := Option.some.inj ((show Tryd.prog.funcNamed "straggle/stragglelaw07.LexBad" = some 7 by kernel_rfl).symm.trans hf) |>.symm
      obtain rfl : fn = Tryd.f7 := (Option.some.inj (Tryd.func7.symm.trans hfn)).symm
      exact ⟨by kernel_rfl, fun j t ht => by
        rw [Tryd.params7] at ht
        have hm : t ∈ [9, 5] := by simpa using Array.mem_of_getElem? ht
        have hall : ([9, 5].all fun u => !Tryd.prog.wantsStandIn u) = true := by kernel_rfl
        exact (show Tryd.prog.wantsStandIn t = false by simpa using List.all_eq_true.1 hall t hm)⟩)
    (by kernel_rfl)
#print axioms proved
end Go.Proofs.YtmjpmcefoebjpaaDoor.lexBad
