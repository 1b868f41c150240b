/-
  ParseCut of stage 9, at every input: the law's call returns true, for any text, where the ways of comparing lie as the program's text lays them; no other condition.
-/
import Derived.Test.YtkedifhlkiffoaaDoorPS
import Derived.Test.YtkedifhlkiffoaaDoorLP
import Derived.Test.YtkedifhlkiffoaaDoorLU
import Derived.Deep.QuietTactic
import Derived.RegionTactic
import Derived.BigRegion
namespace Go.Proofs.YtkedifhlkiffoaaDoor.parseCut
open Go.ChangeShapes Go.WideShapes Go.ChangeAt Go.RowKit
open Go.ChangeMaps (open_string shut_string)
open Tree (Tm Cp Sp)
set_option linter.unusedVariables false
set_option linter.unusedSimpArgs false
attribute [local go_sem] Oper.semAt_some
theorem wrap_small (a b : Nat) (h : a + b ≤ 100000) : wrap64 ((a : Int) + (b : Int)) = ((a + b : Nat) : Int) := by unfold wrap64; omega
theorem toksF_fits : ∀ (f p : Nat) (l : Bs) (x : Tk × Nat), x ∈ toksF f p l → fits x.1.n = true := by
  intro f
  induction f with
  | zero => intro p l x hx; cases hx
  | succ f ih =>
    intro p l x hx
    simp only [toksF] at hx
    rcases List.mem_cons.1 hx with rfl | hx
    · exact first_fits _
    · split at hx
      · cases hx
      · exact ih _ _ _ hx
theorem refAll_ok (l : Bs) (w : World) (hl : l.length ≤ 2000) (h : ∀ x ∈ toks l, x.1.k ≠ 6) :
    Calls Tryd.prog 18 #[S l] w fun e w' => ∃ v, e = .returned (.tuple #[v, .int .i64 0, .int .i64 0]) ∧ TksAt w.heap.size v (toks l) w' ∧ Below w.heap.size w w' := by
  refine (refAll_short ⟨l.toArray⟩ w hl).mono ?_
  rintro e w' (⟨-, ⟨v, rfl, hr⟩, hb⟩ | ⟨t, p, h1, h2, _⟩)
  · exact ⟨v, rfl, hr, hb⟩
  · exact absurd h2 (h _ h1)
set_option maxRecDepth 100000 in
set_option maxHeartbeats 1000000 in
theorem cut_long (s : ByteArray) (w : World) (ho : OpsAt w) (h : 1000 < s.size) :
    Calls Tryd.prog 6 #[.string s] w fun e w' => e = .returned (.bool true) ∧ Below w.heap.size w w' := by
  have hd : decide ((1000 : Int) < s.size) = true := by simp; omega
  go_enter Tryd.func6, Tryd.ntmps6
  go_wp2_with fail
  (with_reducible refine (wakes_any9 _ ho).mono ?_)
  rintro e w1 ⟨rfl, hb⟩
  go_wp2
  go_ret
  exact ⟨rfl, hb⟩
set_option maxRecDepth 100000 in
set_option maxHeartbeats 4000000 in
theorem cut_bad (l : Bs) (w : World) (ho : OpsAt w) (h : l.length ≤ 1000) (t : Tk) (p : Nat) (ht : (t, p) ∈ toks l) (h6 : t.k = 6) :
    Calls Tryd.prog 6 #[S l] w fun e w' => e = .returned (.bool true) ∧ Below w.heap.size w w' := by
  have hsz : (⟨l.toArray⟩ : ByteArray).size = l.length := rfl
  have hd : decide ((1000 : Int) < l.length) = false := by simp; omega
  have M1 := Lib.hid (parse_lexbad ⟨l.toArray⟩ p 70 (by decide) w ho (fun W hW => lexAll_bad l W (by omega) hW t p ht h6))
  have HA := Lib.hid (fun W => refAll_short ⟨l.toArray⟩ W (by rw [hsz]; omega))
  unfold S
  go_enter Tryd.func6, Tryd.ntmps6
  go_wp2_with fail
  (with_reducible refine M1.out.mono ?_)
  rintro e w1 ⟨hb1, rfl⟩
  have hk : Below w1.heap.size w1 (w1.alloc (.cells #[.slice none 0 0, .int .i64 0] 25)) := (Below.refl _ w1).alloc (Nat.le_refl _) _
  have hb2 := hb1.trans (hk.mono hb1.size)
  have ho2 := (ho.later hb1).later hk
  go_wp2_with fail
  (with_reducible refine (HA.out _).mono ?_)
  rintro e w3 (⟨hno, -⟩ | ⟨t', p', -, -, rfl, hb3⟩)
  · exact absurd h6 (hno _ ht)
  have ho3 := ho2.later hb3
  have hb4 := hb2.trans (hb3.mono hb2.size)
  go_wp2_with fail
  (with_reducible refine (wakes_any9 w3 ho3).mono ?_)
  rintro e w4 ⟨rfl, hb5⟩
  go_wp2
  go_ret
  exact ⟨rfl, hb4.trans (hb5.mono hb4.size)⟩
set_option maxRecDepth 100000 in
set_option maxHeartbeats 8000000 in
theorem cut_ok (l : Bs) (w : World) (ho : OpsAt w) (h : l.length ≤ 1000) (h6 : ∀ x ∈ toks l, x.1.k ≠ 6) :
    Calls Tryd.prog 6 #[S l] w fun e w' => e = .returned (.bool true) ∧ Below w.heap.size w w' := by
  have hsz : (⟨l.toArray⟩ : ByteArray).size = l.length := rfl
  have hd : decide ((1000 : Int) < l.length) = false := by simp; omega
  have hpos : 0 < (toks l).length := by unfold toks; simp [toksF]
  have hlen : (toks l).length ≤ 1001 := by have := toks_le l; omega
  have M1 := Lib.hid (parse_u l w (by omega) ho h6)
  have HA := Lib.hid (fun W => refAll_ok l W (by omega) h6)
  have HR := Lib.hid (toks_whole l h6)
  unfold S at *
  go_enter Tryd.func6, Tryd.ntmps6
  go_wp2_with fail
  (with_reducible refine M1.out.mono ?_)
  rintro e w1 ⟨a, c, L, win, at1, er1, hb1, rfl, -, hO1, -⟩
  clear M1
  obtain ⟨N, hN⟩ : ∃ N, L.length = N := ⟨_, rfl⟩
  rw [hN]
  have hk : Below w1.heap.size w1 (w1.alloc (.cells #[.slice a N c, .int .i64 win] 25)) := (Below.refl _ w1).alloc (Nat.le_refl _) _
  have hb2 := hb1.trans (hk.mono hb1.size)
  have ho2 := (ho.later hb1).later hk
  go_wp2_with fail
  (with_reducible refine (HA.out _).mono ?_)
  rintro e w3 ⟨v, rfl, ht, hb3⟩
  clear HA
  obtain ⟨g1, d1, rfl⟩ := tks_some ht hpos
  have ho3 := ho2.later hb3
  have hb4 := hb2.trans (hb3.mono hb2.size)
  clear hb1 hk hb2 ho2 hb3
  rcases hO1 with ⟨hp, rfl, rfl⟩ | ⟨j, x, hp, hx, rfl, rfl, rfl, rfl⟩
  · clear hp
    go_wp2_with fail
    (with_reducible refine (wakes_any9 w3 ho3).mono ?_)
    rintro e w4 ⟨rfl, hb5⟩
    go_wp2
    go_ret
    exact ⟨rfl, hb4.trans (hb5.mono hb4.size)⟩
  · obtain ⟨q1, q2, q3⟩ := behind_pure h6 hp hx
    obtain ⟨q4, q5⟩ := ahead_pure h6 hp hx
    have B1 := Lib.hid (fun W ho => parse_u (l.take (x.2 + (textT x.1).length)) W (by simp; omega) ho q2)
    have B2 := Lib.hid (fun W ho => parse_u (l.take x.2) W (by simp; omega) ho q4)
    have E1 := Lib.hid q3
    have E2 := Lib.hid q5
    unfold S at B1 B2
    have hrise := Lib.hid (fun i y => HR.out.rise i j y x)
    have hrise2 := Lib.hid (fun i y => HR.out.rise j i x y)
    have hfit : fits x.1.n = true := toksF_fits _ _ _ x (List.mem_of_getElem? hx)
    clear hp q2 q3 q4 q5 HR h6
    obtain ⟨n, hn⟩ : ∃ n, (toks l).length = n := ⟨_, rfl⟩
    rw [hn] at hpos hlen ht ⊢
    have HN := Lib.hid hn
    have HX := Lib.hid hx
    have hj := (List.getElem?_eq_some_iff.1 hx).1
    have hjn : j < n := by omega
    clear hn hx
    go_wp2_with fail
    go_loopw [9, 10] (fun t u wr => ∃ i : Nat, i ≤ n ∧ u = .int .i64 i ∧ t = .string ⟨(if j < i then textT x.1 else []).toArray⟩ ∧ Hid (Below w3.heap.size w3 wr)) (fun _ u _ => n - (intOf u).toNat)
    case atStart => exact ⟨0, Nat.zero_le _, rfl, by simp, Lib.hid (Below.refl _ _)⟩
    case round =>
      obtain ⟨i, hi, rfl, rfl, hbr⟩ := hrel
      by_cases hlt : i < n
      · have hlti : (i : Int) < n := by omega
        obtain ⟨y, hy⟩ : ∃ y, (toks l)[i]? = some y := ⟨_, List.getElem?_eq_getElem (by rw [HN.out]; exact hlt)⟩
        obtain ⟨k0, k1, k2⟩ := tks_cell (ht.later hbr.out) hy
        by_cases hij : i = j
        · subst hij
          obtain rfl := Option.some.inj (hy.symm.trans HX.out)
          have HT := Lib.hid (refText_any y.1 y.2 wr hfit)
          have hnx : (if i < i + 1 then textT y.1 else []) = textT y.1 := if_pos (by omega)
          clear B1 B2 E1 E2 hrise hrise2 hy q1
          go_wp2_with fail
          (with_reducible refine HT.out.mono ?_)
          rintro e w5 ⟨rfl, hb5⟩
          have hb6 := hbr.out.trans (hb5.mono hbr.out.size)
          go_wp2_with fail
          exact ⟨⟨i + 1, by omega, by go_num, by rw [hnx], Lib.hid hb6⟩, by simp [intOf]; omega⟩
        · have hne : ¬ (y.2 : Int) = x.2 := by
            rcases Nat.lt_or_ge i j with hl | hl
            · have := hrise.out i y hl hy HX.out
              omega
            · have := hrise2.out i y (by omega) HX.out hy
              omega
          have hnx : (if j < i + 1 then textT x.1 else []) = (if j < i then textT x.1 else []) := by
            by_cases hji : j < i
            · rw [if_pos hji, if_pos (by omega)]
            · rw [if_neg hji, if_neg (by omega)]
          have hne2 : ((y.2 : Int) == (x.2 : Int)) = false := by simpa using hne
          clear B1 B2 E1 E2 hrise hrise2 hy q1
          go_wp2_with fail
          exact ⟨⟨i + 1, by omega, by go_num, by rw [hnx], hbr⟩, by simp [intOf]; omega⟩
      · obtain rfl : i = n := by omega
        rw [if_pos hjn]
        clear hrise hrise2 HX hfit HN hpos
        have hbr2 := hbr.out
        have ho5 := ho3.later hbr2
        have hb5 := hb4.trans (hbr2.mono hb4.size)
        obtain ⟨W, hW⟩ : ∃ W, textT x.1 = W := ⟨_, rfl⟩
        rw [hW] at q1 B1 E1 ⊢
        obtain ⟨m, hm⟩ : ∃ m, W.length = m := ⟨_, rfl⟩
        rw [hm] at q1 B1 E1
        have hszW : (⟨W.toArray⟩ : ByteArray).size = m := hm
        have HC2 := Lib.hid (ext_take l x.2 (by omega))
        have hx2 : ((x.2 : Nat) : Int) ≤ (l.length : Int) := by omega
        have hd1 : decide ((x.2 : Int) < 0) = false := decide_eq_false (by omega)
        have hd3 : decide ((l.length : Int) < (x.2 : Int)) = false := decide_eq_false (by omega)
        have hm2 : (m : Int) ≤ 1000 := by omega
        have hx3 : (x.2 : Int) ≤ 1000 := by omega
        have hsum : (x.2 : Int) + (m : Int) ≤ (l.length : Int) := by omega
        have C1 := ext_take l (x.2 + m) q1
        clear hjn hlt hi hlen q1 hj h hm hN hbr ht
        go_upto_region 15 with fail
        have hsum2 : ((x.2 + m : Nat) : Int) = (x.2 : Int) + (m : Int) := by omega
        go_wp2_with fail
        clear hsum hsum2 hm2 hx3
        (with_reducible refine (B1.out _ ho5).mono ?_)
        rintro e w5 ⟨a5, c5, L5, win5, at5, er5, hb6, rfl, -, hO5, -⟩
        obtain ⟨e5, e6⟩ := E1.out _ _ _ _ hO5
        subst e5
        subst e6
        obtain ⟨N5, hN5⟩ : ∃ N, L5.length = N := ⟨_, rfl⟩
        rw [hN5]
        have hk5 : Below w5.heap.size w5 (w5.alloc (.cells #[.slice a5 N5 c5, .int .i64 win5] 25)) := (Below.refl _ w5).alloc (Nat.le_refl _) _
        have ho7 := (ho5.later hb6).later hk5
        have hb7 := (hb5.trans (hb6.mono hb5.size)).trans (hk5.mono (hb5.trans (hb6.mono hb5.size)).size)
        have C2 := HC2.out
        clear C1 E1 B1 hO5 hN5 hk5 hb6
        go_wp2_with fail
        (with_reducible refine (B2.out _ ho7).mono ?_)
        rintro e w8 ⟨a8, c8, L8, win8, at8, er8, hb8, rfl, -, hO8, -⟩
        have hE := E2.out _ _ _ _ hO8
        obtain ⟨N8, hN8⟩ : ∃ N, L8.length = N := ⟨_, rfl⟩
        rw [hN8]
        have hk8 : Below w8.heap.size w8 (w8.alloc (.cells #[.slice a8 N8 c8, .int .i64 win8] 25)) := (Below.refl _ w8).alloc (Nat.le_refl _) _
        have ho9 := (ho7.later hb8).later hk8
        have hb9 := (hb7.trans (hb8.mono hb7.size)).trans (hk8.mono (hb7.trans (hb8.mono hb7.size)).size)
        clear C2 E2 B2 hO8 hN8 hk8 hb8 hd3 hx2
        rcases hE with rfl | ⟨rfl, rfl⟩
        · go_wp2_with fail
          (with_reducible refine (wakes_any9 _ ho9).mono ?_)
          rintro e wz ⟨rfl, hbz⟩
          go_wp2
          go_ret
          exact ⟨rfl, hb9.trans (hbz.mono hb9.size)⟩
        · go_wp2_with fail
          (with_reducible refine (wakes_any9 _ ho9).mono ?_)
          rintro e wz ⟨rfl, hbz⟩
          go_wp2
          go_ret
          exact ⟨rfl, hb9.trans (hbz.mono hb9.size)⟩
theorem walk (s : ByteArray) (w : World) (ho : OpsAt w) (hs : s.size ≤ maxLen) :
    Calls Tryd.prog 6 #[.string s] w fun e w' => e = .returned (.bool true) ∧ Below w.heap.size w w' := by
  by_cases h : 1000 < s.size
  · exact cut_long s w ho h
  have hl : s.data.toList.length ≤ 1000 := by have : s.data.toList.length = s.size := rfl; omega
  by_cases h6 : ∀ x ∈ toks s.data.toList, x.1.k ≠ 6
  · exact cut_ok s.data.toList w ho hl h6
  · obtain ⟨x, hx⟩ : ∃ x, x ∈ toks s.data.toList ∧ x.1.k = 6 := by
      refine Classical.byContradiction fun hn => h6 fun x hx he => hn ⟨x, hx, he⟩
    exact cut_bad s.data.toList w ho hl x.1 x.2 hx.1 hx.2
set_option maxRecDepth 100000 in
theorem lifted (os : Os) (started : os.Started) (H : Type) (enc : TypeId × Value → H) :
    ReturnsInHanded {} Tryd.checked os 6 .any (fun w args => (Rows.parseCutSpec.pre enc Tryd.prog Tryd.f6 [] false w args ∧ laidMetH Tryd.prog laid1 w) ∧ sizedMet enc Tryd.prog Tryd.f6 (OpenSpec.ofChange Rows.parseCutSpec) false w args)
      (Rows.parseCutSpec.post enc Tryd.prog Tryd.f6 false true false false) := by
  refine returnsInHanded_of_change_and (C := Tryd.checked) (X := fun w _ => laidMetH Tryd.prog laid1 w) (fun _ _ _ hh h => h.of_heap hh) own started (by kernel_rfl) Tryd.func6
    (ChangeSpec.witness_shaped (enc := enc) (C := Tryd.checked) (os := os) (X := fun w _ => laidMetH Tryd.prog laid1 w) false (World.doorLaid Tryd.prog 400 os) #[.string ⟨#[]⟩] 8 rfl (World.shaped_of_RefB (by kernel_rfl) (by kernel_rfl)) (by kernel_rfl) (by kernel_rfl) (by kernel_rfl) (door_met os _)) ?_
  intro W base args ds gs before hval0 hW _ _ hL _
  have hval : ∀ (j : Nat) t v, Tryd.f6.params[j]? = some t → args[j]? = some v → Value.okWide Tryd.prog W .any base t v := hval0
  have hW' := hW
  obtain ⟨p, q, hA0, hV, rfl, hfz, hnd⟩ := hW
  have hA : DataW.TrodAll enc Tryd.prog W 0 (fun _ => true) true Tryd.f6.params.toList args.toList ds p := hA0
  rw [Tryd.params6] at hA hval
  obtain ⟨v0, vs0, d0, ds0, p0, q0, hargs, rfl, rfl, h0, r0⟩ := trodAll_cons hA
  obtain ⟨rfl, rfl, rfl⟩ := trodAll_nil r0
  obtain rfl : args = #[v0] := by cases args; simp_all
  obtain ⟨rfl, rfl⟩ := trodVars_none hV
  obtain ⟨a0, rfl, rfl, rfl, w0⟩ := open_string Tryd.underlying9 (hval 0 9 v0 rfl rfl) h0
  have ho := ops_of_laid hL
  clear hA0 hval0
  refine (walk a0 W ho w0).mono fun e W' ⟨he, bel⟩ => ?_
  subst he
  exact ⟨_, rfl, _, _, _, [], _, [], hW', trodAll_mk1 (shut_bool Tryd.underlying4 _), (trodAll_cons_mk (shut_string Tryd.underlying9 w0) trodAll_mk0), rfl, bel.frame _, fun h => by cases h⟩

theorem over : Rows.parseCutRow.holds Tryd.pinned (OpenSpec.ofChange Rows.parseCutSpec) :=
  OpenClaim.holds_of_wide 6 Tryd.f6 rfl rfl rfl rfl rfl rfl rfl ⟨rfl, rfl, rfl, rfl, rfl⟩ rfl rfl rfl rfl rfl (by kernel_rfl) Tryd.func6 (by kernel_rfl)
    (of_decide_eq_true (by kernel_rfl)) (by unfold Func.isWrapper; first | (rw [if_pos (by decide +kernel)]; kernel_rfl) | (rw [if_neg (by decide +kernel)]; exact ⟨rfl, rfl⟩))
    (fun os started H enc _ => lifted os started H enc)

theorem proved : Rows.ParseCutCardSaid :=
  Claim7.holds_tied_plain_at .later [] [.data] true (true, "8951fcf2f1aa268f231726c1c9c9cc5d68f7a7c78d087fffac500afabcc0f7a2") true
    over (fun _ h => by cases h) (by kernel_rfl) (fun _ h => by cases h) parseCut_row_tie rfl ⟨rfl, rfl⟩ (by kernel_rfl) rfl
    (fun f fn hf hfn => by
      obtain rfl : f = 6 := Option.some.inj ((show Tryd.prog.funcNamed "straggle/stragglelaw09.ParseCut" = some 6 by kernel_rfl).symm.trans hf) |>.symm
      obtain rfl : fn = Tryd.f6 := (Option.some.inj (Tryd.func6.symm.trans hfn)).symm
      exact ⟨by kernel_rfl, fun j t ht => by
        rw [Tryd.params6] at ht
        have hm : t ∈ [9] := by simpa using Array.mem_of_getElem? ht
        have hall : ([9].all fun u => !Tryd.prog.wantsStandIn u) = true := by kernel_rfl
        exact (show Tryd.prog.wantsStandIn t = false by simpa using List.all_eq_true.1 hall t hm)⟩)
    (by kernel_rfl)
#print axioms proved
end Go.Proofs.YtkedifhlkiffoaaDoor.parseCut
