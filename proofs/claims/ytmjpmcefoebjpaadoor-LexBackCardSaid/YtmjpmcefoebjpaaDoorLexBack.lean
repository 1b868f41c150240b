/-
  LexBack of stage 7, at every input: the law's call returns true, for any text, where the ways of comparing lie as the program's text lays them; no other condition.
-/
import Derived.Test.YtmjpmcefoebjpaaDoorLP
import Derived.Deep.QuietTactic
import Derived.BigQuiet
namespace Go.Proofs.YtmjpmcefoebjpaaDoor.lexBack
open Go.ChangeShapes Go.WideShapes Go.ChangeAt Go.RowKit
open Go.ChangeMaps (open_string shut_string)
set_option linter.unusedVariables false
set_option linter.unusedSimpArgs false
attribute [local go_sem] Oper.semAt_some
theorem toksF_fits (f : Nat) : ∀ (p : Nat) (l : Bs), ∀ x ∈ toksF f p l, fits x.1.n = true := by
  induction f with
  | zero => intro p l x hx; cases hx
  | succ f ih =>
    intro p l x hx
    simp only [toksF] at hx
    rcases List.mem_cons.1 hx with rfl | hx
    · exact first_fits _
    · split at hx
      · cases hx
      · exact ih _ _ x hx
theorem text_len (t : Tk) : (textT t).length ≤ 21 := by
  by_cases h : textT t = []
  · simp [h]
  rcases text_cases t h with ⟨hk, h0, h1, e⟩ | ⟨hk, h0, h1, e⟩ | ⟨rfl, e⟩ | ⟨hk, h0, h1, e⟩ | ⟨hk, hs, e⟩
  · rw [e]; exact textB_len t.n (by rw [fits_iff]; omega)
  · simp [e]
  · rw [e]; decide
  · rw [e]; rcases op_cases t.n h0 h1 with h | h | h | h | h | h <;> rw [h] <;> decide
  · simp [e]
/-- What has been said behind i tokens. -/
def sayTo (ks : List Tk) : Nat → Bs
  | 0 => []
  | i + 1 => sayTo ks i ++ textT (ks[i]?.getD ⟨0, 0⟩) ++ (if i + 2 < ks.length then [32] else [])
theorem sayTo_rest (ks : List Tk) : ∀ i, i ≤ ks.length → sayTo ks i ++ say (ks.drop i) = say ks := by
  intro i
  induction i with
  | zero => intro _; simp [sayTo]
  | succ i ih =>
    intro hi
    have h := ih (by omega)
    rw [List.drop_eq_getElem_cons (show i < ks.length by omega)] at h
    simp only [say] at h
    rw [← h]
    simp only [sayTo]
    rw [List.getElem?_eq_getElem (show i < ks.length by omega), Option.getD_some, List.length_drop, List.append_assoc, List.append_assoc]
    by_cases h2 : i + 2 < ks.length
    · rw [if_pos h2, if_pos (by omega)]
    · rw [if_neg h2, if_neg (by omega)]
theorem sayTo_len (ks : List Tk) (i : Nat) : (sayTo ks i).length ≤ 22 * i := by
  induction i with
  | zero => simp [sayTo]
  | succ i ih =>
    simp only [sayTo, List.length_append]
    have := text_len (ks[i]?.getD ⟨0, 0⟩)
    split <;> simp <;> omega
theorem sayTo_all (ks : List Tk) : sayTo ks ks.length = say ks := by
  have := sayTo_rest ks ks.length (Nat.le_refl _)
  rw [List.drop_length] at this
  simpa [say] using this
theorem ext_mid (l : Bs) (a n : Nat) (w : Bs) (h : (l.drop a).take n = w) : (⟨l.toArray⟩ : ByteArray).extract a (a + n) = ⟨w.toArray⟩ := by
  apply ByteArray.ext
  rw [ByteArray.data_extract]
  simp [List.extract, h]
/-- What is known of the token at i, as the law asks it. -/
structure At (s : ByteArray) (ts : List (Tk × Nat)) (n i : Nat) (x : Tk × Nat) : Prop where
  from_ : endOf 0 ts i ≤ x.2
  fit : x.2 + (textT x.1).length ≤ s.size
  mid : s.extract x.2 (x.2 + (textT x.1).length) = ⟨(textT x.1).toArray⟩
  bl : ∀ j (hj : j < s.size), endOf 0 ts i ≤ j → j < x.2 → (s[j].toNat : Int) = 32
  last : i + 1 = n → x.1.k = 0 ∧ textT x.1 = []
  more : i + 1 ≠ n → x.1.k ≠ 0 ∧ textT x.1 ≠ []
  num : fits x.1.n = true
  next : endOf 0 ts (i + 1) = x.2 + (textT x.1).length
theorem at_of (l : Bs) (h : ∀ x ∈ toks l, x.1.k ≠ 6) (i : Nat) (x : Tk × Nat) (hx : (toks l)[i]? = some x) : At ⟨l.toArray⟩ (toks l) (toks l).length i x := by
  have hw := toks_whole l h
  obtain ⟨a1, a2, a3, a4, a5, a6, a7, a8⟩ := hw.each i x hx
  refine ⟨a1, by show _ ≤ l.length; omega, ext_mid l _ _ _ (by simpa using a4), fun j hj h1 h2 => ?_, fun hn => ⟨a6.1 hn, a7.1 hn⟩, fun hn => ⟨fun hk => hn (a6.2 hk), fun hk => hn (a7.2 hk)⟩, toksF_fits _ _ _ x (List.mem_of_getElem? hx), by simp [endOf, hx]⟩
  obtain ⟨_, hb⟩ := a5 j h1 h2
  rw [Nat.sub_zero] at hb
  rw [at_list l j hj]
  have := (List.getElem?_eq_some_iff.1 hb).2
  rw [this]; rfl
theorem end_of (l : Bs) (h : ∀ x ∈ toks l, x.1.k ≠ 6) : endOf 0 (toks l) (toks l).length = l.length := by
  have hw := toks_whole l h
  have hpos : 0 < (toks l).length := by unfold toks; simp [toksF]
  obtain ⟨i, hi⟩ : ∃ i, (toks l).length = i + 1 := ⟨(toks l).length - 1, by omega⟩
  obtain ⟨x, hx⟩ : ∃ x, (toks l)[i]? = some x := ⟨_, List.getElem?_eq_getElem (by omega)⟩
  obtain ⟨a1, a2, a3, a4, a5, a6, a7, a8⟩ := hw.each i x hx
  rw [hi]
  simp only [endOf, hx]
  have h1 := a8 hi.symm
  have h2 := a7.1 hi.symm
  rw [h2]; simp; omega
theorem again_of (l : Bs) (h : ∀ x ∈ toks l, x.1.k ≠ 6) : (toks (say ((toks l).map (·.1)))).map (·.1) = (toks l).map (·.1) ∧ ∀ x ∈ toks (say ((toks l).map (·.1))), x.1.k ≠ 6 := by
  obtain ⟨us, hu, he⟩ := (toks_whole l h).said 0
  rw [hu.all]
  refine ⟨he, fun x hx => ?_⟩
  have : x.1 ∈ us.map (·.1) := List.mem_map.2 ⟨x, hx, rfl⟩
  rw [he] at this
  obtain ⟨y, hy, e⟩ := List.mem_map.1 this
  rw [← e]
  exact h y hy
set_option maxRecDepth 100000 in
set_option maxHeartbeats 1000000 in
theorem back_long (s : ByteArray) (w : World) (ho : OpsAt w) (h : 3000 < s.size) :
    Calls Tryd.prog 4 #[.string s] w fun e w' => e = .returned (.bool true) ∧ Below w.heap.size w w' := by
  have hd : decide ((3000 : Int) < s.size) = true := by simp; omega
  go_enter Tryd.func4, Tryd.ntmps4
  go_wp2_with fail
  (with_reducible refine (wakes_any _ ho).mono ?_)
  rintro e w1 ⟨rfl, hb⟩
  go_wp2
  go_ret
  exact ⟨rfl, hb⟩
set_option maxRecDepth 100000 in
set_option maxHeartbeats 4000000 in
theorem back_over (s : ByteArray) (w : World) (ho : OpsAt w) (h : s.size ≤ 3000) (h2 : 2000 < s.size) :
    Calls Tryd.prog 4 #[.string s] w fun e w' => e = .returned (.bool true) ∧ Below w.heap.size w w' := by
  have hd : decide ((3000 : Int) < s.size) = false := by simp; omega
  have hd2 : decide ((2000 : Int) < s.size) = true := by simp; omega
  have HA := Lib.hid (all_long s w h2)
  go_enter Tryd.func4, Tryd.ntmps4
  go_wp2_with fail
  (with_reducible refine HA.out.mono ?_)
  rintro e w1 ⟨rfl, hb1⟩
  have ho1 := ho.later hb1
  go_wp2_with fail
  (with_reducible refine (wakes_any _ ho1).mono ?_)
  rintro e w2 ⟨rfl, hb2⟩
  go_wp2
  go_ret
  exact ⟨rfl, hb1.trans (hb2.mono hb1.size)⟩
theorem wrong_at (l : Bs) (t : Tk) (p : Nat) (ht : (t, p) ∈ toks l) (h6 : t.k = 6) : p < l.length ∧ ∀ hj : p < (⟨l.toArray⟩ : ByteArray).size, (((⟨l.toArray⟩ : ByteArray)[p].toNat : Int) != 32) = true := by
  obtain ⟨e, hT⟩ := toks_some l
  obtain ⟨h1, h2, h3⟩ := hT.wrong t p ht h6
  rw [Nat.sub_zero] at h3
  refine ⟨by omega, fun hj => ?_⟩
  rw [at_list l p hj, bne_iff_ne]
  intro hc
  apply h3
  rw [List.getElem?_eq_getElem (by omega)]
  exact congrArg some (UInt8.toNat_inj.1 (by simp; omega))
set_option maxRecDepth 100000 in
set_option maxHeartbeats 4000000 in
theorem back_bad0 (s : ByteArray) (w : World) (ho : OpsAt w) (h : s.size ≤ 2000) (p : Nat) (hp : p < s.size) (hc : ((s[p].toNat : Int) != 32) = true)
    (HA : Hid (Calls Tryd.prog 9 #[.string s] w fun e w' => e = .returned (.tuple #[.slice none 0 0, .int .i64 (p : Nat), .int .i64 70]) ∧ Below w.heap.size w w')) :
    Calls Tryd.prog 4 #[.string s] w fun e w' => e = .returned (.bool true) ∧ Below w.heap.size w w' := by
  have hd : decide ((3000 : Int) < s.size) = false := by simp; omega
  have hpi : (p : Int) < (s.size : Int) := by omega
  go_enter Tryd.func4, Tryd.ntmps4
  go_wp2_with fail
  (with_reducible refine HA.out.mono ?_)
  rintro e w1 ⟨rfl, hb1⟩
  have ho1 := ho.later hb1
  clear HA
  go_wp2_with fail
  (with_reducible refine (wakes_any _ ho1).mono ?_)
  rintro e w2 ⟨rfl, hb2⟩
  go_wp2
  go_ret
  exact ⟨rfl, hb1.trans (hb2.mono hb1.size)⟩
theorem back_bad (l : Bs) (w : World) (ho : OpsAt w) (h : l.length ≤ 2000) (t : Tk) (p : Nat) (ht : (t, p) ∈ toks l) (h6 : t.k = 6) :
    Calls Tryd.prog 4 #[S l] w fun e w' => e = .returned (.bool true) ∧ Below w.heap.size w w' := by
  obtain ⟨hp, h32⟩ := wrong_at l t p ht h6
  exact back_bad0 ⟨l.toArray⟩ w ho h p hp (h32 hp) (lexAll_bad l w h ho t p ht h6)
set_option maxRecDepth 100000 in
set_option maxHeartbeats 8000000 in
theorem back_ok0 (s : ByteArray) (ts : List (Tk × Nat)) (w : World) (ho : OpsAt w) (h : s.size ≤ 2000)
    (HA : Hid (Calls Tryd.prog 9 #[.string s] w fun e w' => ∃ v, e = .returned (.tuple #[v, .int .i64 0, .int .i64 0]) ∧ TksAt w.heap.size v ts w' ∧ Below w.heap.size w w'))
    (hpos : 0 < ts.length) (hlen : ts.length ≤ 2001) (HAT : Hid (∀ i x, ts[i]? = some x → At s ts ts.length i x)) (HE : Hid (endOf 0 ts ts.length = s.size))
    (HG : Hid ((toks (say (ts.map (·.1)))).map (·.1) = ts.map (·.1) ∧ ∀ x ∈ toks (say (ts.map (·.1))), x.1.k ≠ 6)) :
    Calls Tryd.prog 4 #[.string s] w fun e w' => e = .returned (.bool true) ∧ Below w.heap.size w w' := by
  have hd : decide ((3000 : Int) < s.size) = false := by simp; omega
  have hd2 : decide ((2000 : Int) < s.size) = false := by simp; omega
  go_enter Tryd.func4, Tryd.ntmps4
  go_wp2_with fail
  (with_reducible refine HA.out.mono ?_)
  rintro e w1 ⟨v, rfl, ht1, hb1⟩
  obtain ⟨g1, d1, rfl⟩ := tks_some ht1 hpos
  have ho1 := ho.later hb1
  obtain ⟨n, hn⟩ : ∃ n, ts.length = n := ⟨_, rfl⟩
  rw [hn] at hpos hlen ht1 HAT HE ⊢
  have HN := Lib.hid hn
  clear hn HA
  have hn0 : decide ((n : Int) < 1) = false := by simp; omega
  go_wp2_with fail
  go_loopw [6, 7, 8] (fun f a t wr => ∃ i : Nat, i ≤ n ∧ t = .int .i64 i ∧ f = .int .i64 (endOf 0 ts i : Nat) ∧ a = .string ⟨(sayTo (ts.map (·.1)) i).toArray⟩ ∧ Below w1.heap.size w1 wr) (fun f a t _ => n - (intOf t).toNat)
  case atStart => exact ⟨0, by omega, rfl, rfl, rfl, Below.refl _ _⟩
  case round =>
    obtain ⟨i, hi, rfl, rfl, rfl, hbr⟩ := hrel
    have hB2 := hb1.trans (hbr.mono hb1.size)
    have ho2 := ho1.later hbr
    by_cases hlt : i < n
    · obtain ⟨x, hx⟩ : ∃ x, ts[i]? = some x := ⟨_, List.getElem?_eq_getElem (by rw [HN.out]; exact hlt)⟩
      have hA := HAT.out i x hx
      obtain ⟨k0, k1, k2⟩ := tks_cell (ht1.later hbr) hx
      have hlti : (i : Int) < n := by omega
      have HT := Lib.hid (lexText_any x.1 x.2 wr ho2 hA.num)
      unfold tokV S at HT
      have HF := Lib.hid hA.next
      have HS : Hid (sayTo (ts.map (·.1)) (i + 1) = sayTo (ts.map (·.1)) i ++ textT x.1 ++ (if i + 2 < n then [32] else [])) := by
        show _ = _
        simp only [sayTo]
        rw [List.getElem?_map, hx, List.length_map, HN.out]
        rfl
      obtain ⟨⟨k, m⟩, q⟩ := x
      have hAf := hA.from_
      have hAm := hA.mid
      have hAt := hA.fit
      have hAl := Lib.hid hA.last
      have hAo := Lib.hid hA.more
      have hAb := Lib.hid hA.bl
      simp only at hAf hAm hAt hAl hAo hAb HF HS HT k0 k1 k2
      clear hA hx HAT HE HG
      have hsl := sayTo_len (ts.map (·.1)) i
      have htl := text_len ⟨k, m⟩
      generalize textT ⟨k, m⟩ = tx at *
      generalize endOf 0 ts i = fr at *
      generalize sayTo (ts.map (·.1)) i = sA at *
      obtain ⟨e, he⟩ : ∃ e : Nat, q + tx.length = e := ⟨_, rfl⟩
      have hw : wrap64 ((q : Int) + (tx.length : Int)) = (e : Int) := by unfold wrap64; omega
      have hF1 : decide ((q : Int) < (fr : Int)) = false := by simp; omega
      have hF2 : decide ((s.size : Int) < (e : Int)) = false := by simp; omega
      have hw2 : IntKind.i64.wrap ((q : Int) + (tx.length : Int)) = (e : Int) := by rw [IntKind.wrap_i64]; omega
      have hF1n : decide (q < fr) = false := by simp; omega
      have hF2n : decide (s.size < e) = false := by simp; omega
      have hF3 : (q : Int) ≤ (e : Int) := by omega
      have hF4 : (e : Int) ≤ (s.size : Int) := by omega
      rw [he] at hAm HF
      have HE := Lib.hid he
      clear he hAt
      go_wp2_with fail
      (with_reducible refine HT.out.mono ?_)
      rintro r w2 ⟨rfl, hb2⟩
      have hbr2 := hbr.trans (hb2.mono hbr.size)
      replace k0 := bcell hb2 k0
      replace k1 := bcell hb2 k1
      replace k2 := bcell hb2 k2
      clear HT hb2 hbr hB2 ho2
      have hc1 : (⟨sA.toArray⟩ : ByteArray) ++ ⟨tx.toArray⟩ = ⟨(sA ++ tx).toArray⟩ := by apply ByteArray.ext; rw [ByteArray.data_append]; simp
      by_cases hl : i + 1 = n
      · have hL : ((i : Int) == (n : Int) - 1) = true := by simp; omega
        have hK : (k == 0) = true := by simp [(hAl.out hl).1]
        have hT0 : tx.isEmpty = true := by simp [(hAl.out hl).2]
        have hM : decide ((i : Int) < (n : Int) - 2) = false := by simp; omega
        clear hAl hAo
        go_wp2_with fail
        go_quiet (fail)
        go_wp2_with fail
        have hd3 : Below w2.heap.size w2 (w2.drewN nq) := ⟨rfl, rfl, rfl, Nat.le_refl _, fun _ _ => rfl⟩
        have hbr3 := hbr2.trans (hd3.mono hbr2.size)
        replace k0 := bcell hd3 k0
        replace k1 := bcell hd3 k1
        replace k2 := bcell hd3 k2
        clear hd3 hbr2
        generalize w2.drewN nq = w3 at *
        go_loopw [11] (fun t wr' => ∃ j : Nat, fr ≤ j ∧ j ≤ q ∧ t = .int .i64 j ∧ wr' = w3) (fun t _ => q - (intOf t).toNat)
        case atStart => exact ⟨fr, Nat.le_refl _, hAf, rfl, rfl⟩
        case round =>
          obtain ⟨j, hj1, hj2, rfl, rfl⟩ := hrel
          by_cases hjq : j < q
          · have hjs : j < s.size := by omega
            have hb32 := hAb.out j hjs hj1 hjq
            have hjqi : (j : Int) < q := by omega
            have hjsi : (j : Int) < s.size := by omega
            clear hAb
            go_wp2_with fail
            exact ⟨⟨j + 1, by omega, by omega, by go_num, trivial⟩, by simp [intOf]; omega⟩
          · obtain rfl : j = q := by omega
            clear hAb
            go_wp2_with fail
            exact ⟨⟨i + 1, by omega, by go_num, by rw [HF.out], by rw [HS.out, if_neg (by omega), List.append_nil], hbr3⟩, by simp [intOf]; omega⟩
      · have hL : ((i : Int) == (n : Int) - 1) = false := by simp; omega
        have hK : (k == 0) = false := by simpa using (hAo.out hl).1
        have hT0 : tx.isEmpty = false := by simpa using (hAo.out hl).2
        by_cases hl2 : i + 2 < n
        · have hM : decide ((i : Int) < (n : Int) - 2) = true := by simp; omega
          have hc2 : (⟨(sA ++ tx).toArray⟩ : ByteArray) ++ ⟨#[32]⟩ = ⟨(sA ++ tx ++ [32]).toArray⟩ := by apply ByteArray.ext; rw [ByteArray.data_append]; simp
          have hsl2 : (sA ++ tx).length ≤ 44100 := by simp; omega
          clear hAl hAo
          go_wp2_with fail
          go_quiet (fail)
          go_wp2_with fail
          have hd3 : Below w2.heap.size w2 (w2.drewN nq) := ⟨rfl, rfl, rfl, Nat.le_refl _, fun _ _ => rfl⟩
          have hbr3 := hbr2.trans (hd3.mono hbr2.size)
          replace k0 := bcell hd3 k0
          replace k1 := bcell hd3 k1
          replace k2 := bcell hd3 k2
          clear hd3 hbr2
          generalize w2.drewN nq = w3 at *
          go_loopw [11] (fun t wr' => ∃ j : Nat, fr ≤ j ∧ j ≤ q ∧ t = .int .i64 j ∧ wr' = w3) (fun t _ => q - (intOf t).toNat)
          case atStart => exact ⟨fr, Nat.le_refl _, hAf, rfl, rfl⟩
          case round =>
            obtain ⟨j, hj1, hj2, rfl, rfl⟩ := hrel
            by_cases hjq : j < q
            · have hjs : j < s.size := by omega
              have hb32 := hAb.out j hjs hj1 hjq
              have hjqi : (j : Int) < q := by omega
              have hjsi : (j : Int) < s.size := by omega
              clear hAb
              go_wp2_with fail
              exact ⟨⟨j + 1, by omega, by omega, by go_num, trivial⟩, by simp [intOf]; omega⟩
            · obtain rfl : j = q := by omega
              clear hAb
              go_wp2_with fail
              exact ⟨⟨i + 1, by omega, by go_num, by rw [HF.out], by rw [HS.out, if_pos (by omega), List.append_assoc], hbr3⟩, by simp [intOf]; omega⟩
        · have hM : decide ((i : Int) < (n : Int) - 2) = false := by simp; omega
          clear hAl hAo
          go_wp2_with fail
          go_quiet (fail)
          go_wp2_with fail
          have hd3 : Below w2.heap.size w2 (w2.drewN nq) := ⟨rfl, rfl, rfl, Nat.le_refl _, fun _ _ => rfl⟩
          have hbr3 := hbr2.trans (hd3.mono hbr2.size)
          replace k0 := bcell hd3 k0
          replace k1 := bcell hd3 k1
          replace k2 := bcell hd3 k2
          clear hd3 hbr2
          generalize w2.drewN nq = w3 at *
          go_loopw [11] (fun t wr' => ∃ j : Nat, fr ≤ j ∧ j ≤ q ∧ t = .int .i64 j ∧ wr' = w3) (fun t _ => q - (intOf t).toNat)
          case atStart => exact ⟨fr, Nat.le_refl _, hAf, rfl, rfl⟩
          case round =>
            obtain ⟨j, hj1, hj2, rfl, rfl⟩ := hrel
            by_cases hjq : j < q
            · have hjs : j < s.size := by omega
              have hb32 := hAb.out j hjs hj1 hjq
              have hjqi : (j : Int) < q := by omega
              have hjsi : (j : Int) < s.size := by omega
              clear hAb
              go_wp2_with fail
              exact ⟨⟨j + 1, by omega, by omega, by go_num, trivial⟩, by simp [intOf]; omega⟩
            · obtain rfl : j = q := by omega
              clear hAb
              go_wp2_with fail
              exact ⟨⟨i + 1, by omega, by go_num, by rw [HF.out], by rw [HS.out, if_neg (by omega), List.append_nil], hbr3⟩, by simp [intOf]; omega⟩
    · obtain rfl : i = n := by omega
      have hsay : sayTo (ts.map (·.1)) i = say (ts.map (·.1)) := by
        have := sayTo_all (ts.map (·.1))
        rw [List.length_map, HN.out] at this
        exact this
      rw [hsay, HE.out]
      have hsl := sayTo_len (ts.map (·.1)) i
      rw [hsay] at hsl
      obtain ⟨hg1, hg2⟩ := HG.out
      clear hsay HE HG HAT hd hd2
      obtain ⟨ag, hag⟩ : ∃ ag, say (ts.map (·.1)) = ag := ⟨_, rfl⟩
      rw [hag] at hg1 hg2 hsl ⊢
      clear hag
      have hsz : ((s.size : Int) != (s.size : Int)) = false := by simp
      by_cases hlong : 2000 < ag.length
      · have hdl : decide ((2000 : Int) < (ag.length : Int)) = true := by simp; omega
        clear hg1 hg2
        go_wp2_with fail
        (with_reducible refine (wakes_any wr ho2).mono ?_)
        rintro e w5 ⟨rfl, hb5⟩
        go_wp2
        go_ret
        exact ⟨rfl, hB2.trans (hb5.mono hB2.size)⟩
      · have hdl : decide ((2000 : Int) < (ag.length : Int)) = false := by simp; omega
        have HB := Lib.hid (lexAll_ok ag wr (by omega) ho2 hg2)
        unfold S at HB
        obtain ⟨us, hus⟩ : ∃ us, toks ag = us := ⟨_, rfl⟩
        rw [hus] at hg1 HB
        have hul : us.length = i := by
          have := congrArg List.length hg1
          rw [List.length_map, List.length_map, HN.out] at this
          exact this
        have HX : Hid (∀ (j : Nat) (x : Tk × Nat), ts[j]? = some x → ∃ y : Tk × Nat, us[j]? = some y ∧ y.1 = x.1) := fun j x hx => by
          have h1 : (us.map (·.1))[j]? = some x.1 := by rw [hg1, List.getElem?_map, hx]; rfl
          rw [List.getElem?_map] at h1
          obtain ⟨y, hy, e⟩ := Option.map_eq_some_iff.1 h1
          exact ⟨y, hy, e⟩
        clear hg1 hg2 hus
        have HUL := Lib.hid hul
        clear hul
        go_wp2_with fail
        (with_reducible refine HB.out.mono ?_)
        rintro e w5 ⟨v5, rfl, ht5, hb5⟩
        obtain ⟨g5, d5, rfl⟩ := tks_some ht5 (by rw [HUL.out]; exact hpos)
        rw [HUL.out] at ht5 ⊢
        have hB5 := hB2.trans (hb5.mono hB2.size)
        have ho5 := ho2.later hb5
        have ht15 := (ht1.later hbr).later hb5
        clear HB hb5 hB2 ho2
        go_wp2_with fail
        go_loopw [15] (fun t wr' => ∃ j : Nat, j ≤ i ∧ t = .int .i64 j ∧ ∃ m, wr' = w5.drewN m) (fun t _ => i - (intOf t).toNat)
        case atStart => exact ⟨0, Nat.zero_le _, rfl, 0, rfl⟩
        case round =>
          obtain ⟨j, hj, rfl, m, rfl⟩ := hrel
          by_cases hlt : j < i
          · obtain ⟨x, hx⟩ : ∃ x, ts[j]? = some x := ⟨_, List.getElem?_eq_getElem (by rw [HN.out]; exact hlt)⟩
            obtain ⟨y, hy, hyx⟩ := HX.out j x hx
            obtain ⟨k0, k1, k2⟩ := tks_cell ht15 hx
            obtain ⟨j0, j1, j2⟩ := tks_cell ht5 hy
            rw [hyx] at j0 j1
            have hlti : (j : Int) < i := by omega
            clear hx hy hyx k2 j2 HX
            go_wp2_with fail
            go_quiet (fail)
            go_wp2_with fail
            exact ⟨⟨j + 1, by omega, by go_num, m + nq, by simp [World.drewN, Nat.add_assoc]⟩, by simp [intOf]; omega⟩
          · obtain rfl : j = i := by omega
            have hd6 : Below w5.heap.size w5 (w5.drewN m) := ⟨rfl, rfl, rfl, Nat.le_refl _, fun _ _ => rfl⟩
            have hB6 := hB5.trans (hd6.mono hB5.size)
            have ho6 := ho5.later hd6
            generalize w5.drewN m = w6 at *
            go_wp2_with fail
            (with_reducible refine (wakes_any w6 ho6).mono ?_)
            rintro e w7 ⟨rfl, hb7⟩
            go_wp2
            go_ret
            exact ⟨rfl, hB6.trans (hb7.mono hB6.size)⟩
theorem back_ok (l : Bs) (w : World) (ho : OpsAt w) (h : l.length ≤ 2000) (h6 : ∀ x ∈ toks l, x.1.k ≠ 6) :
    Calls Tryd.prog 4 #[S l] w fun e w' => e = .returned (.bool true) ∧ Below w.heap.size w w' :=
  back_ok0 ⟨l.toArray⟩ (toks l) w ho h (lexAll_ok l w h ho h6) (by unfold toks; simp [toksF]) (by have := toks_le l; omega) (at_of l h6) (end_of l h6) (again_of l h6)
theorem walk (s : ByteArray) (w : World) (ho : OpsAt w) (hs : s.size ≤ maxLen) :
    Calls Tryd.prog 4 #[.string s] w fun e w' => e = .returned (.bool true) ∧ Below w.heap.size w w' := by
  by_cases h : 3000 < s.size
  · exact back_long s w ho h
  by_cases h2 : 2000 < s.size
  · exact back_over s w ho (by omega) h2
  have hl : s.data.toList.length ≤ 2000 := by have : s.data.toList.length = s.size := rfl; omega
  by_cases h6 : ∀ x ∈ toks s.data.toList, x.1.k ≠ 6
  · exact back_ok s.data.toList w ho hl h6
  · obtain ⟨x, hx⟩ : ∃ x, x ∈ toks s.data.toList ∧ x.1.k = 6 := by
      refine Classical.byContradiction fun hn => h6 fun x hx he => hn ⟨x, hx, he⟩
    exact back_bad s.data.toList w ho hl x.1 x.2 hx.1 hx.2
set_option maxRecDepth 100000 in
theorem lifted (os : Os) (started : os.Started) (H : Type) (enc : TypeId × Value → H) :
    ReturnsInHanded {} Tryd.checked os 4 .any (fun w args => (Rows.lexBackSpec.pre enc Tryd.prog Tryd.f4 [] false w args ∧ laidMetH Tryd.prog laid1 w) ∧ sizedMet enc Tryd.prog Tryd.f4 (OpenSpec.ofChange Rows.lexBackSpec) false w args)
      (Rows.lexBackSpec.post enc Tryd.prog Tryd.f4 false true false false) := by
  refine returnsInHanded_of_change_and (C := Tryd.checked) (X := fun w _ => laidMetH Tryd.prog laid1 w) (fun _ _ _ hh h => h.of_heap hh) own started (by kernel_rfl) Tryd.func4
    (ChangeSpec.witness_shaped (enc := enc) (C := Tryd.checked) (os := os) (X := fun w _ => laidMetH Tryd.prog laid1 w) false (World.doorLaid Tryd.prog 400 os) #[.string ⟨#[]⟩] 8 rfl (World.shaped_of_RefB (by kernel_rfl) (by kernel_rfl)) (by kernel_rfl) (by kernel_rfl) (by kernel_rfl) (door_met os _)) ?_
  intro W base args ds gs before hval0 hW _ _ hL _
  have hval : ∀ (j : Nat) t v, Tryd.f4.params[j]? = some t → args[j]? = some v → Value.okWide Tryd.prog W .any base t v := hval0
  have hW' := hW
  obtain ⟨p, q, hA0, hV, rfl, hfz, hnd⟩ := hW
  have hA : DataW.TrodAll enc Tryd.prog W 0 (fun _ => true) true Tryd.f4.params.toList args.toList ds p := hA0
  rw [Tryd.params4] at hA hval
  obtain ⟨v0, vs0, d0, ds0, p0, q0, hargs, rfl, rfl, h0, r0⟩ := trodAll_cons hA
  obtain ⟨rfl, rfl, rfl⟩ := trodAll_nil r0
  obtain rfl : args = #[v0] := by cases args; simp_all
  obtain ⟨rfl, rfl⟩ := trodVars_none hV
  obtain ⟨a0, rfl, rfl, rfl, w0⟩ := open_string Tryd.underlying9 (hval 0 9 v0 rfl rfl) h0
  have ho := ops_of_laid hL
  clear hA0 hval0
  refine (walk a0 W ho w0).mono fun e W' ⟨he, bel⟩ => ?_
  subst he
  exact ⟨_, rfl, _, _, _, [], _, [], hW', trodAll_mk1 (shut_bool Tryd.underlying4 _), (trodAll_cons_mk (shut_string Tryd.underlying9 w0) trodAll_mk0), rfl, bel.frame _, fun h => by cases h⟩

theorem over : Rows.lexBackRow.holds Tryd.pinned (OpenSpec.ofChange Rows.lexBackSpec) :=
  OpenClaim.holds_of_wide 4 Tryd.f4 rfl rfl rfl rfl rfl rfl rfl ⟨rfl, rfl, rfl, rfl, rfl⟩ rfl rfl rfl rfl rfl (by kernel_rfl) Tryd.func4 (by kernel_rfl)
    (of_decide_eq_true (by kernel_rfl)) (by unfold Func.isWrapper; first | (rw [if_pos (by decide +kernel)]; kernel_rfl) | (rw [if_neg (by decide +kernel)]; exact ⟨rfl, rfl⟩))
    (fun os started H enc _ => lifted os started H enc)

theorem proved : Rows.LexBackCardSaid :=
  Claim7.holds_tied_plain_at .later [] [.data] true (true, "10c7faa58d7290b04509190263b05b32731b19e44df98b50f4fbbd66dc46bcf5") false
    over (fun _ h => by cases h) (by kernel_rfl) (fun _ h => by cases h) lexBack_row_tie rfl ⟨rfl, rfl⟩ (by kernel_rfl) rfl
    (fun f fn hf hfn => by
      obtain rfl : f = 4 := Option.some.inj ((show Tryd.prog.funcNamed "straggle/stragglelaw07.LexBack" = some 4 by kernel_rfl).symm.trans hf) |>.symm
      obtain rfl : fn = Tryd.f4 := (Option.some.inj (Tryd.func4.symm.trans hfn)).symm
      exact ⟨by kernel_rfl, fun j t ht => by
        rw [Tryd.params4] at ht
        have hm : t ∈ [9] := by simpa using Array.mem_of_getElem? ht
        have hall : ([9].all fun u => !Tryd.prog.wantsStandIn u) = true := by kernel_rfl
        exact (show Tryd.prog.wantsStandIn t = false by simpa using List.all_eq_true.1 hall t hm)⟩)
    (by kernel_rfl)
#print axioms proved
end Go.Proofs.YtmjpmcefoebjpaaDoor.lexBack
