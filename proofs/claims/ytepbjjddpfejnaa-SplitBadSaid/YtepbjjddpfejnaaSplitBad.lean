/-
  SplitBad of stage 6, at every input: the law's call returns true, for any piece; no condition.
-/
import Derived.Test.YtepbjjddpfejnaaAQ
import Derived.Lib.SmallJoins
namespace Go.Proofs.Ytepbjjddpfejnaa.splitBad
open Go.ChangeShapes Go.WideShapes Go.ChangeAt Go.RowKit Go.Joins
set_option linter.unusedVariables false
set_option linter.unusedSimpArgs false
theorem take_err (zs : List Int) (h : (takeOf zs).2 ≠ 0) : (takeOf zs).1 = noRc := by
  unfold takeOf at h ⊢
  split
  · rfl
  · rename_i h0
    rw [if_neg h0] at h
    split
    · rename_i h1
      rw [if_pos h1] at h
      split
      · rfl
      · rename_i h2
        rw [if_neg h2] at h
        split
        · rfl
        · rename_i h3
          rw [if_neg h3] at h
          split
          · rename_i h4
            rw [if_pos h4] at h
            exact absurd rfl h
          · rfl
    · rename_i h1
      rw [if_neg h1] at h
      split
      · rename_i h1
        rw [if_pos h1] at h
        split
        · rfl
        · rename_i h2
          rw [if_neg h2] at h
          split
          · rfl
          · rename_i h3
            rw [if_neg h3] at h
            split
            · rename_i h4
              rw [if_pos h4] at h
              exact absurd rfl h
            · rfl
      · rfl
set_option maxRecDepth 100000 in
set_option maxHeartbeats 2000000 in
theorem bad_long (at_ : Int) (a : Option Addr) (len cap : Nat) (cut : Bool) (w : World) (h : 300 < len) (hm : len ≤ maxLen) :
    Calls Try.prog 5 #[PV at_ (.slice a len cap) cut] w fun e w' => e = .returned (.bool true) ∧ Below w.heap.size w w' := by
  unfold maxLen at hm
  have hd : decide ((300 : Int) < len) = true := by simp; omega
  go_enter Try.func5, Try.ntmps5
  go_wp2_with fail
  (with_reducible refine (wakes_any _).mono ?_)
  rintro e w1 ⟨rfl, hb⟩
  go_wp2
  go_ret
  exact ⟨rfl, ((Below.refl _ _).alloc (Nat.le_refl _) _).trans (hb.mono (by simp))⟩
set_option maxRecDepth 100000 in
set_option maxHeartbeats 4000000 in
theorem bad_none (at_ : Int) (a : Option Addr) (len cap : Nat) (cut : Bool) (w : World) (h : len ≤ 300) (hbad : len = 0 ∨ cut = true) :
    Calls Try.prog 5 #[PV at_ (.slice a len cap) cut] w fun e w' => e = .returned (.bool true) ∧ Below w.heap.size w w' := by
  have hd : decide ((300 : Int) < len) = false := by simp; omega
  have hpb : PcBox w.heap.size at_ (.slice a len cap) cut (w.alloc (.cells #[.int .i64 at_, .slice a len cap, .bool cut] 28)) := World.alloc_heap_new w _
  have hb0 : Below w.heap.size w (w.alloc (.cells #[.int .i64 at_, .slice a len cap, .bool cut] 28)) := (Below.refl _ _).alloc (Nat.le_refl _) _
  have hsm := Lib.hid (fun w => refSame_self noRc ord0 ord0 w)
  go_enter Try.func5, Try.ntmps5
  go_wp2_with fail
  generalize w.alloc (.cells #[.int .i64 at_, .slice a len cap, .bool cut] 28) = w1 at *
  (with_reducible refine (rec_bad at_ a len cap cut hbad w1).mono ?_)
  rintro e w2 ⟨rfl, hb2⟩
  have hB2 := hb0.trans (hb2.mono hb0.size)
  have hp2 := hpb.later hb2
  have hr3 := RecAt.new w2 0 0 0 0 0 0 0 0 0
  have hB3 := hB2.alloc hB2.size (.cells #[.int .u8 0, .int .i64 0, .int .i64 0, .int .i64 0, .int .i64 0, .complex .f64 0 0, .int .i64 0, .int .i64 0] 42)
  have hp3 := hp2.later ((Below.refl _ w2).alloc (Nat.le_refl _) (.cells #[.int .u8 0, .int .i64 0, .int .i64 0, .int .i64 0, .int .i64 0, .complex .f64 0 0, .int .i64 0, .int .i64 0] 42))
  clear hpb hb0 hb2 hB2 hp2
  obtain ⟨c0, c1, c2⟩ := hp3.cell
  by_cases h0 : len = 0
  · subst h0
    go_wp2_with fail
    generalize w2.alloc (.cells #[.int .u8 0, .int .i64 0, .int .i64 0, .int .i64 0, .int .i64 0, .complex .f64 0 0, .int .i64 0, .int .i64 0] 42) = w3 at *
    refine (hsm.out w3).mono ?_
    rintro e w4 ⟨rfl, hb4⟩
    have hB4 := hB3.trans (hb4.mono hB3.size)
    go_wp2_with fail
    (with_reducible refine (wakes_any _).mono ?_)
    rintro e w5 ⟨rfl, hb5⟩
    go_wp2
    go_ret
    exact ⟨rfl, hB4.trans (hb5.mono hB4.size)⟩
  · obtain rfl : cut = true := hbad.resolve_left h0
    have h1 : ((len : Int) == 0) = false := by simp; omega
    go_wp2_with fail
    generalize w2.alloc (.cells #[.int .u8 0, .int .i64 0, .int .i64 0, .int .i64 0, .int .i64 0, .complex .f64 0 0, .int .i64 0, .int .i64 0] 42) = w3 at *
    refine (hsm.out w3).mono ?_
    rintro e w4 ⟨rfl, hb4⟩
    have hB4 := hB3.trans (hb4.mono hB3.size)
    go_wp2_with fail
    (with_reducible refine (wakes_any _).mono ?_)
    rintro e w5 ⟨rfl, hb5⟩
    go_wp2
    go_ret
    exact ⟨rfl, hB4.trans (hb5.mono hB4.size)⟩
set_option maxRecDepth 100000 in
set_option maxHeartbeats 4000000 in
theorem bad_ok (at_ : Int) (a : Option Addr) (len cap : Nat) (r : Rc) (e : Int) (w : World) (h : len ≤ 300) (h0 : len ≠ 0) (hself : SelfR r) (he : e = 0)
    (hT : ∀ w', Below w.heap.size w w' → Calls Try.prog 19 #[.slice a len cap] w' (Told (r, e) w')) (hF : ∀ w', Below w.heap.size w w' → RefTook (.slice a len cap) r.v e w') :
    Calls Try.prog 5 #[PV at_ (.slice a len cap) false] w fun x w' => x = .returned (.bool true) ∧ Below w.heap.size w w' := by
  have hd : decide ((300 : Int) < len) = false := by simp; omega
  have h1 : ((len : Int) == 0) = false := by simp; omega
  have hpb : PcBox w.heap.size at_ (.slice a len cap) false (w.alloc (.cells #[.int .i64 at_, .slice a len cap, .bool false] 28)) := World.alloc_heap_new w _
  have hb0 : Below w.heap.size w (w.alloc (.cells #[.int .i64 at_, .slice a len cap, .bool false] 28)) := (Below.refl _ _).alloc (Nat.le_refl _) _
  have hsm := Lib.hid (fun w => refSame_self r hself.1 hself.2 w)
  have hRec := Lib.hid (rec_good at_ a len cap h0 r.k r.ts r.src r.seq r.ek r.p r.q r.rs r.rt e (w.alloc (.cells #[.int .i64 at_, .slice a len cap, .bool false] 28)) (fun w' hw => hT w' (hb0.trans (hw.mono (by simp)))))
  have HF := Lib.hid hF
  have hee : (e == e) = true := by simp
  clear hT hF
  go_enter Try.func5, Try.ntmps5
  go_wp2_with fail
  generalize w.alloc (.cells #[.int .i64 at_, .slice a len cap, .bool false] 28) = w1 at *
  (with_reducible refine hRec.out.mono ?_)
  rintro x w2 ⟨rfl, hb2⟩
  have hB2 := hb0.trans (hb2.mono hb0.size)
  have hp2 := hpb.later hb2
  have hr3 := RecAt.new w2 r.k r.ts r.src r.seq r.ek r.p r.q r.rs r.rt
  have hB3 := hB2.alloc hB2.size (.cells #[.int .u8 r.k, .int .i64 r.ts, .int .i64 r.src, .int .i64 r.seq, .int .i64 r.ek, .complex .f64 r.p r.q, .int .i64 r.rs, .int .i64 r.rt] 42)
  have hp3 := hp2.later ((Below.refl _ w2).alloc (Nat.le_refl _) (.cells #[.int .u8 r.k, .int .i64 r.ts, .int .i64 r.src, .int .i64 r.seq, .int .i64 r.ek, .complex .f64 r.p r.q, .int .i64 r.rs, .int .i64 r.rt] 42))
  have hs3 : (w2.alloc (.cells #[.int .u8 r.k, .int .i64 r.ts, .int .i64 r.src, .int .i64 r.seq, .int .i64 r.ek, .complex .f64 r.p r.q, .int .i64 r.rs, .int .i64 r.rt] 42)).heap.size = w2.heap.size + 1 := World.size_alloc _ _
  clear hpb hb0 hb2 hB2 hp2 hRec
  obtain ⟨c0, c1, c2⟩ := hp3.cell
  go_wp2_with fail
  generalize w2.alloc (.cells #[.int .u8 r.k, .int .i64 r.ts, .int .i64 r.src, .int .i64 r.seq, .int .i64 r.ek, .complex .f64 r.p r.q, .int .i64 r.rs, .int .i64 r.rt] 42) = w3 at *
  (with_reducible refine (HF.out w3 hB3).mono ?_)
  rintro x w4 ⟨rfl, hb4⟩
  have hB4 := hB3.trans (hb4.mono hB3.size)
  have hr4 := hr3.later hb4
  have hr5 := hr4.later ((Below.refl _ w4).alloc (Nat.le_refl _) (.cells #[.int .u8 r.k, .int .i64 r.ts, .int .i64 r.src, .int .i64 r.seq, .int .i64 r.ek, .complex .f64 r.p r.q, .int .i64 r.rs, .int .i64 r.rt] 42))
  have hq5 := RecAt.new w4 r.k r.ts r.src r.seq r.ek r.p r.q r.rs r.rt
  have hB5 := hB4.alloc hB4.size (.cells #[.int .u8 r.k, .int .i64 r.ts, .int .i64 r.src, .int .i64 r.seq, .int .i64 r.ek, .complex .f64 r.p r.q, .int .i64 r.rs, .int .i64 r.rt] 42)
  clear hp3 hr3 hb4 hB4 hr4 HF hB3
  obtain ⟨k8, k0, k1, k2, k3, k4, k5, k6, k7⟩ := hr5
  obtain ⟨j8, j0, j1, j2, j3, j4, j5, j6, j7⟩ := hq5
  go_wp2_with fail
  generalize w4.alloc (.cells #[.int .u8 r.k, .int .i64 r.ts, .int .i64 r.src, .int .i64 r.seq, .int .i64 r.ek, .complex .f64 r.p r.q, .int .i64 r.rs, .int .i64 r.rt] 42) = w5 at *
  refine (hsm.out w5).mono ?_
  rintro x w6 ⟨rfl, hb6⟩
  have hB6 := hB5.trans (hb6.mono hB5.size)
  subst he
  go_wp2_with fail
  (with_reducible refine (wakes_any _).mono ?_)
  rintro x w8 ⟨rfl, hb8⟩
  go_wp2
  go_ret
  exact ⟨rfl, hB6.trans (hb8.mono hB6.size)⟩
set_option maxRecDepth 100000 in
set_option maxHeartbeats 4000000 in
theorem bad_err (at_ : Int) (a : Option Addr) (len cap : Nat) (r : Rc) (e : Int) (w : World) (h : len ≤ 300) (h0 : len ≠ 0) (hself : SelfR r) (he : e ≠ 0) (hr0 : Hid (r = noRc))
    (hT : ∀ w', Below w.heap.size w w' → Calls Try.prog 19 #[.slice a len cap] w' (Told (r, e) w')) (hF : ∀ w', Below w.heap.size w w' → RefTook (.slice a len cap) r.v e w') :
    Calls Try.prog 5 #[PV at_ (.slice a len cap) false] w fun x w' => x = .returned (.bool true) ∧ Below w.heap.size w w' := by
  have hd : decide ((300 : Int) < len) = false := by simp; omega
  have h1 : ((len : Int) == 0) = false := by simp; omega
  have hpb : PcBox w.heap.size at_ (.slice a len cap) false (w.alloc (.cells #[.int .i64 at_, .slice a len cap, .bool false] 28)) := World.alloc_heap_new w _
  have hb0 : Below w.heap.size w (w.alloc (.cells #[.int .i64 at_, .slice a len cap, .bool false] 28)) := (Below.refl _ _).alloc (Nat.le_refl _) _
  have hsm := Lib.hid (fun w => refSame_self r hself.1 hself.2 w)
  have hRec := Lib.hid (rec_good at_ a len cap h0 r.k r.ts r.src r.seq r.ek r.p r.q r.rs r.rt e (w.alloc (.cells #[.int .i64 at_, .slice a len cap, .bool false] 28)) (fun w' hw => hT w' (hb0.trans (hw.mono (by simp)))))
  have HF := Lib.hid hF
  have hee : (e == e) = true := by simp
  clear hT hF
  go_enter Try.func5, Try.ntmps5
  go_wp2_with fail
  generalize w.alloc (.cells #[.int .i64 at_, .slice a len cap, .bool false] 28) = w1 at *
  (with_reducible refine hRec.out.mono ?_)
  rintro x w2 ⟨rfl, hb2⟩
  have hB2 := hb0.trans (hb2.mono hb0.size)
  have hp2 := hpb.later hb2
  have hr3 := RecAt.new w2 r.k r.ts r.src r.seq r.ek r.p r.q r.rs r.rt
  have hB3 := hB2.alloc hB2.size (.cells #[.int .u8 r.k, .int .i64 r.ts, .int .i64 r.src, .int .i64 r.seq, .int .i64 r.ek, .complex .f64 r.p r.q, .int .i64 r.rs, .int .i64 r.rt] 42)
  have hp3 := hp2.later ((Below.refl _ w2).alloc (Nat.le_refl _) (.cells #[.int .u8 r.k, .int .i64 r.ts, .int .i64 r.src, .int .i64 r.seq, .int .i64 r.ek, .complex .f64 r.p r.q, .int .i64 r.rs, .int .i64 r.rt] 42))
  have hs3 : (w2.alloc (.cells #[.int .u8 r.k, .int .i64 r.ts, .int .i64 r.src, .int .i64 r.seq, .int .i64 r.ek, .complex .f64 r.p r.q, .int .i64 r.rs, .int .i64 r.rt] 42)).heap.size = w2.heap.size + 1 := World.size_alloc _ _
  clear hpb hb0 hb2 hB2 hp2 hRec
  obtain ⟨c0, c1, c2⟩ := hp3.cell
  go_wp2_with fail
  generalize w2.alloc (.cells #[.int .u8 r.k, .int .i64 r.ts, .int .i64 r.src, .int .i64 r.seq, .int .i64 r.ek, .complex .f64 r.p r.q, .int .i64 r.rs, .int .i64 r.rt] 42) = w3 at *
  (with_reducible refine (HF.out w3 hB3).mono ?_)
  rintro x w4 ⟨rfl, hb4⟩
  have hB4 := hB3.trans (hb4.mono hB3.size)
  have hr4 := hr3.later hb4
  have hr5 := hr4.later ((Below.refl _ w4).alloc (Nat.le_refl _) (.cells #[.int .u8 r.k, .int .i64 r.ts, .int .i64 r.src, .int .i64 r.seq, .int .i64 r.ek, .complex .f64 r.p r.q, .int .i64 r.rs, .int .i64 r.rt] 42))
  have hq5 := RecAt.new w4 r.k r.ts r.src r.seq r.ek r.p r.q r.rs r.rt
  have hB5 := hB4.alloc hB4.size (.cells #[.int .u8 r.k, .int .i64 r.ts, .int .i64 r.src, .int .i64 r.seq, .int .i64 r.ek, .complex .f64 r.p r.q, .int .i64 r.rs, .int .i64 r.rt] 42)
  clear hp3 hr3 hb4 hB4 hr4 HF hB3
  obtain ⟨k8, k0, k1, k2, k3, k4, k5, k6, k7⟩ := hr5
  obtain ⟨j8, j0, j1, j2, j3, j4, j5, j6, j7⟩ := hq5
  go_wp2_with fail
  generalize w4.alloc (.cells #[.int .u8 r.k, .int .i64 r.ts, .int .i64 r.src, .int .i64 r.seq, .int .i64 r.ek, .complex .f64 r.p r.q, .int .i64 r.rs, .int .i64 r.rt] 42) = w5 at *
  refine (hsm.out w5).mono ?_
  rintro x w6 ⟨rfl, hb6⟩
  have hB6 := hB5.trans (hb6.mono hB5.size)
  obtain rfl := hr0.out
  have he1 : (e == 0) = false := by simpa using he
  have hk0 := bcell hb6 k8 k0
  have hk1 := bcell hb6 k8 k1
  have hk2 := bcell hb6 k8 k2
  have hk3 := bcell hb6 k8 k3
  have hk4 := bcell hb6 k8 k4
  have hk5 := bcell hb6 k8 k5
  have hk6 := bcell hb6 k8 k6
  have hk7 := bcell hb6 k8 k7
  go_wp2_with fail
  refine (hsm.out w6).mono ?_
  rintro x w7 ⟨rfl, hb7⟩
  have hB7 := hB6.trans (hb7.mono hB6.size)
  go_wp2_with fail
  (with_reducible refine (wakes_any _).mono ?_)
  rintro x w8 ⟨rfl, hb8⟩
  go_wp2
  go_ret
  exact ⟨rfl, hB7.trans (hb8.mono hB7.size)⟩
theorem own : ownKnob Try.prog.godebug = none := ownNone
theorem laidOut : laidOutB Try.prog = true := laidOutYes
theorem cells28 : Try.prog.cellsOf 28 = 3 := by kernel_rfl
theorem walk (at_ : Int) (a : Option Addr) (len cap : Nat) (cut : Bool) (zs : List Int) (w : World) (hrow : IsRow .u8 w a len cap zs) :
    Calls Try.prog 5 #[PV at_ (.slice a len cap) cut] w fun e w' => e = .returned (.bool true) ∧ Below w.heap.size w w' := by
  obtain ⟨hm, hs, hl⟩ := scr_of_isrow hrow
  clear hrow
  by_cases h : 300 < len
  · exact bad_long at_ a len cap cut w h hm
  by_cases hbad : len = 0 ∨ cut = true
  · exact bad_none at_ a len cap cut w (by omega) hbad
  have hc : cut = false := by cases cut <;> simp_all
  subst hc
  have h0 : len ≠ 0 := fun e => hbad (.inl e)
  have hself := take_self (zs.take len) (scr_bytes hs)
  have hT : ∀ w', Below w.heap.size w w' → Calls Try.prog 19 #[.slice a len cap] w' (Told ((takeOf (zs.take len)).1, (takeOf (zs.take len)).2) w') := fun w' hw => take_is _ _ w' (hs.later hw)
  have hF : ∀ w', Below w.heap.size w w' → RefTook (.slice a len cap) (takeOf (zs.take len)).1.v (takeOf (zs.take len)).2 w' := fun w' hw => refTake_is _ _ w' (hs.later hw) (by omega)
  by_cases he : (takeOf (zs.take len)).2 = 0
  · exact bad_ok at_ a len cap _ _ w (by omega) h0 hself he hT hF
  · exact bad_err at_ a len cap _ _ w (by omega) h0 hself he (take_err _ he) hT hF
set_option maxRecDepth 100000 in
theorem lifted (os : Os) (started : os.Started) (H : Type) (enc : TypeId × Value → H) :
    ReturnsInHanded {} Try.checked os 5 .any (Rows.splitBadSpec.pre6 enc Try.prog Try.f5 Rows.splitBadRow.domain false) (Rows.splitBadSpec.post enc Try.prog Try.f5 false true false false) := by
  refine returnsInHanded_of_change (C := Try.checked) own started (by kernel_rfl) Try.func5
    (ChangeSpec.witness6 (enc := enc) (C := Try.checked) false ⟨#[], #[.agg #[.int .i64 0, .slice none 0 0, .bool false]], []⟩ 8 (by kernel_rfl) (by kernel_rfl) (by kernel_rfl) (by kernel_rfl)) ?_
  intro W base args ds gs before hval0 hW hcnd _
  have hval : ∀ (j : Nat) t v, Try.f5.params[j]? = some t → args[j]? = some v → Value.okWide Try.prog W .any base t v := hval0
  have hW' := hW
  obtain ⟨p, q, hA0, hV, rfl, hfz, hnd⟩ := hW
  have hA : DataW.TrodAll enc Try.prog W 0 (fun _ => true) true Try.f5.params.toList args.toList ds p := hA0
  rw [Try.params5] at hA hval
  obtain ⟨v0, vs0, d0, ds0, p0, q0, hargs, rfl, rfl, h0, r0⟩ := trodAll_cons hA
  obtain ⟨rfl, rfl, rfl⟩ := trodAll_nil r0
  obtain rfl : args = #[v0] := by cases args; simp_all
  obtain ⟨rfl, rfl⟩ := trodVars_none hV
  have k0 := h0
  have lt0 : ∀ x ∈ p0, x.block < W.heap.size := by obtain ⟨m, hm⟩ := k0; exact DataW.trod_lt m _ _ _ hm
  obtain ⟨x0, x1, x2, y0, y1, y2, n, rfl, -, -, hy0, hy1, hy2⟩ := open_agg3 Try.underlying28 (by kernel_rfl) cells28 (hval 0 28 v0 rfl rfl) h0
  obtain ⟨at_, e0, -, -⟩ := DataW.trod_int Try.underlying3 hy0
  obtain ⟨cut, e2, -⟩ := DataW.trod_bool Try.underlying4 hy2
  simp at e0 e2
  subst e0 e2
  obtain ⟨a0, len0, cap0, z0, hx1, w0⟩ : ∃ a len cap zs, x1 = Value.slice a len cap ∧ IsRow .u8 W a len cap zs := by
    obtain ⟨yd, yp⟩ := y1
    rcases open_ints Try.underlying22 Try.underlying5 (by kernel_rfl) hy1 with ⟨hcs, _⟩ | ⟨x, l, c, zs, hcs, _, hl, hm, hz, _, hcell, hwz⟩
    · simp at hcs
      exact ⟨none, 0, 0, [], hcs, .inl ⟨rfl, rfl, rfl, rfl⟩⟩
    · simp at hcs
      exact ⟨some x, l, c, zs, hcs, .inr ⟨x, rfl, hl, hm, by simpa using hz, hcell, hwz⟩⟩
  subst hx1
  clear hA0 hval0
  refine (walk at_ a0 len0 cap0 cut z0 W w0).mono fun e W' ⟨he, bel⟩ => ?_
  subst he
  exact ⟨_, rfl, _, _, _, [], _, [], hW', trodAll_mk1 (shut_bool Try.underlying4 _), (trodAll_cons_mk (Below.trod laidOut (by kernel_rfl) (of_decide_eq_true (by kernel_rfl)) k0 bel lt0) trodAll_mk0), rfl, bel.frame _, fun h => by cases h⟩

theorem over : Rows.splitBadRow.holds Try.pinned (OpenSpec.ofChange Rows.splitBadSpec) :=
  OpenClaim.holds_of_wide 5 Try.f5 rfl rfl rfl rfl rfl rfl rfl ⟨rfl, rfl, rfl, rfl, rfl⟩ rfl rfl rfl rfl rfl (by kernel_rfl) Try.func5 (by kernel_rfl)
    (of_decide_eq_true (by kernel_rfl)) (by unfold Func.isWrapper; first | (rw [if_pos (by decide +kernel)]; kernel_rfl) | (rw [if_neg (by decide +kernel)]; exact ⟨rfl, rfl⟩))
    (fun os started H enc _ => lifted os started H enc)

theorem proved : Rows.SplitBadSaid := over
#print axioms proved
end Go.Proofs.Ytepbjjddpfejnaa.splitBad
