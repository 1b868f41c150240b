/-
  Contract of the iterator that lex.tokensOf hands back: the tokens of a text of at most 3000 bytes, in order.
-/
import Derived.Test.YtkedifhlkiffoaaDoorLI0
namespace Go.Proofs.YtkedifhlkiffoaaDoor
open Go.ChangeShapes Go.WideShapes Go.ChangeAt Go.RowKit
set_option linter.unusedVariables false
set_option linter.unusedSimpArgs false
attribute [local go_sem] Oper.semAt_some
set_option maxHeartbeats 400000 in
theorem tokensOf_any (s : ByteArray) (w : World) :
    Calls Tryd.prog 67 #[.string s] w fun e w' => e = .returned (.func (.func 87) #[] #[.pointer (some ⟨w.heap.size, 0, none⟩)]) ∧ w' = w.alloc (.cells #[.string s] 9) := by
  go_enter Tryd.func67, Tryd.ntmps67
  go_wp2
  go_ret
  exact ⟨rfl, rfl⟩
theorem slice_from (l : Bs) (p : Nat) (hp : p ≤ l.length) (w : World) : (Instr.slice 9 (.string ⟨l.toArray⟩) (some (.int .i64 (p : Int))) none none).run Tryd.prog w = .ok (.string ⟨(l.drop p).toArray⟩) w := by
  have h := run_slice_string_l (P := Tryd.prog) (w := w) (t := 9) (s := ⟨l.toArray⟩) Tryd.underlying9 .i64 (p : Int) (by omega) (by show (p : Int) ≤ ((l.length : Nat) : Int); omega)
  rw [h]
  have : (⟨l.toArray⟩ : ByteArray).size = l.length := rfl
  rw [this, Int.toNat_natCast, ext_drop]
/-- What the iterator reads lies in memory. -/
def LexAt (B : Nat) (l : Bs) (W : World) : Prop := Boxed W B 9 (S l) ∧ OpsAt W
theorem LexAt.later {B : Nat} {l : Bs} {W W' : World} (h : LexAt B l W) (hb : Below W.heap.size W W') : LexAt B l W' := ⟨(hb.block _ h.1.lt).trans h.1, h.2.later hb⟩
theorem jump_normal {l : Nat} {J : Act → World → Prop} {Q : Exit → Act → World → Prop} {a : Act} {w : World} : Exit.jump l J Q .normal a w = Q .normal a w := rfl
/-- Where the iterator stands when it goes on: k tokens were told, the next one is looked for at place p. -/
def TokJ (y B : Nat) (l : Bs) (J : Nat → World → Prop) (a' : Act) (W : World) : Prop := ∃ (k p f : Nat) (u2 u4 u5 u6 u7 u8 u9 u10 u11 u12 u13 u14 u15 u16 u17 u18 u19 u20 u21 u22 u23 u24 u25 u26 u27 u28 u29 u30 u31 : Value), a' = { tmps := #[.func (.yield y) #[] #[], .pointer (some ⟨B, 0, none⟩), u2, .int .i64 (p : Int), u4, u5, u6, u7, u8, u9, u10, u11, u12, u13, u14, u15, u16, u17, u18, u19, u20, u21, u22, u23, u24, u25, u26, u27, u28, u29, u30, u31], defers := [] } ∧ J k W ∧ Hid ((toks l).drop k = toksF f p (l.drop p)) ∧ Hid ((l.drop p).length < f) ∧ p ≤ l.length
theorem TokBox.setAt {p : Nat} {k n q : Int} {W : World} (hb : TokBox p k n q W) (q' : Int) : TokBox p k n q' (W.setCell ⟨p, 2, none⟩ (.int .i64 q')) := set_block hb _
set_option maxRecDepth 100000 in
set_option maxHeartbeats 4000000 in
theorem tokens_tells (n B : Nat) (hn : 1 ≤ n) (l : Bs) (hl : l.length ≤ 3000) (w : World) :
    TellsRowB True Fence.wide n Tryd.prog 87 #[.pointer (some ⟨B, 0, none⟩)] (LexAt B l) (tokRow l) w := by
  intro y J Jx W0 hW0 hK hDr hY h0
  clear hW0
  have HY := Lib.hid hY
  clear hY
  refine callsIn_of_wp Tryd.func87 rfl trivial ?_ rfl
  simp only [Tryd.ntmps87, List.size_toArray, List.length_cons, List.length_nil, Nat.reduceAdd, Nat.reduceSub, Array.replicate_succ, Array.replicate_zero, List.push_toArray, List.append_toArray, List.nil_append, List.cons_append]
  rw [wpIn_wide]
  go_wp2
  refine wp_scope_jumps 0 (TokJ y B l J) (fun a' _ => l.length + 1 - (intOf (a'.tmps.getD 3 undef)).toNat) rfl ?_ ?_
  · obtain ⟨p, hp0⟩ : ∃ p : Nat, p = 0 := ⟨0, rfl⟩
    have e0 : Hid (Value.int .i64 0 = .int .i64 (p : Int)) := by subst hp0; exact rfl
    have hJ := h0
    have hks : Hid ((toks l).drop 0 = toksF (l.length + 1) p (l.drop p)) := by subst hp0; exact rfl
    have hf : Hid ((l.drop p).length < l.length + 1) := by show _ < _; simp; omega
    have hp : p ≤ l.length := by omega
    obtain ⟨k, hk0⟩ : ∃ k : Nat, k = 0 := ⟨0, rfl⟩
    rw [← hk0] at hJ hks
    obtain ⟨f, hf0⟩ : ∃ f : Nat, f = l.length + 1 := ⟨_, rfl⟩
    rw [← hf0] at hf hks
    obtain ⟨W, hW⟩ : ∃ W, W0 = W := ⟨_, rfl⟩
    rw [hW] at hJ ⊢
    clear h0 hW hk0 hf0
    refine (wpIn_wide (n := n)).1 ?_
    gi_wp2
    refine wpIn_label ?_
    rw [e0.out]
    clear e0 hp0
    obtain ⟨q, hq⟩ : ∃ q, q = p + blanks (l.drop p) := ⟨_, rfl⟩
    obtain ⟨t, ht⟩ : ∃ t, t = firstT (l.drop q) := ⟨_, rfl⟩
    obtain ⟨hq1, hq2, hk1, hk2, hk3, hk4⟩ := pass_pure l k p f q t hks.out hf.out hp hq ht
    have hL := hK _ _ hJ
    have hc := hL.1.cell
    have hcl := hL.1.lt
    unfold S at hc
    have hs1 := slice_from l p hp
    have hs2 := slice_from l q hq1
    have hcr := Lib.hid (run_any 32 32 (l.drop p) W (by rw [List.length_drop]; omega))
    have hsz : (⟨(runL 32 32 (l.drop p)).toArray⟩ : ByteArray).size = blanks (l.drop p) := rfl
    have hqi : Hid (((p : Int) + (blanks (l.drop p) : Nat)) = (q : Int)) := by show _ = _; omega
    have hff := first_fits (l.drop q)
    rw [← ht] at hff
    have hFT := Lib.hid (fun W' hW' => first_any (l.drop q) W' (by rw [List.length_drop]; omega) hW')
    rw [← ht] at hFT
    have HKS := Lib.hid hk2
    have HK3 := Lib.hid hk3
    have HK4 := Lib.hid hk4
    have HQ := Lib.hid hq
    generalize blanks (l.drop p) = bl at *
    unfold S at *
    generalize (⟨(runL 32 32 (l.drop p)).toArray⟩ : ByteArray) = rs at *
    generalize (⟨(l.drop p).toArray⟩ : ByteArray) = sp at *
    generalize (⟨(l.drop q).toArray⟩ : ByteArray) = sq at *
    subst hsz
    clear hk2 hk3 hk4 hq ht hks hf
    have hwq : wrap64 ((p : Int) + (rs.size : Int)) = (q : Int) := by
      have := HQ.out
      unfold wrap64; omega
    gi_wp2_with fail
    refine ⟨trivial, ((callsIn_wide (n := n - 1)).2 hcr.out).mono ?_⟩
    rintro e w1 ⟨rfl, rfl⟩
    gi_wp2_with fail
    rw [hwq]
    refine ⟨trivial, ((callsIn_wide (n := n - 1)).2 (hFT.out _ hL.2)).mono ?_⟩
    rintro e w2 ⟨rfl, hb2⟩
    gi_wp2_with fail
    have hb3 : Below W.heap.size W (w2.alloc (.cells #[.int .u8 t.k, .int .i64 t.n, .int .i64 (q : Int)] 35)) := hb2.alloc hb2.size _
    refine ⟨trivial, ((callsIn_wide (n := n - 1)).2 (lexText_any t q _ (hL.2.later hb3) hff)).mono ?_⟩
    rintro e w4 ⟨rfl, hb4⟩
    have hb5 := hb3.trans (hb4.mono hb3.size)
    have hTB := (TokBox.new w2 t.k t.n q).later hb4
    obtain ⟨c0, c1, c2⟩ := hTB.cells
    have hJ4 := hDr _ _ _ hJ hb5
    have hYY := HY.out k hk1 w4 hJ4
    rw [HKS.out] at hYY
    unfold tokV at hYY
    have YJ := Lib.hid hYY
    have hmz : (⟨(textT t).toArray⟩ : ByteArray).size = (textT t).length := rfl
    unfold S
    generalize (⟨(textT t).toArray⟩ : ByteArray) = st at *
    generalize (textT t).length = m at *
    subst hmz
    clear hYY hJ4 hTB hL hc hs1 hs2 hcr hJ
    obtain ⟨fn, tmps, assign, body, hy, hR⟩ := YJ.out
    gi_wp2
    refine hR.mono ?_
    rintro e w5 (⟨rfl, hJ5⟩ | ⟨-, rfl, hJ5⟩)
    · by_cases hm0 : st.size = 0
      · have hmi : ((st.size : Nat) : Int) = 0 := by omega
        gi_wp2
        rw [jump_normal]
        go_end0
        exact ⟨⟨_, rfl⟩, .inl (by rw [HK3.out hm0]; exact hJ5)⟩
      · have hmi : 0 < ((st.size : Nat) : Int) := by omega
        have hwm : wrap64 ((q : Int) + (st.size : Int)) = (q : Int) + (st.size : Int) := by unfold wrap64; omega
        have hmp : 0 < st.size := by omega
        have hK5 := HK4.out hmp
        have HK6 := Lib.hid hK5.1
        have HK7 := Lib.hid hK5.2
        have HQ2 := Lib.hid hq2
        have HMP := Lib.hid hmp
        have HZ : Hid (((q : Int) + (st.size : Int)) = ((q + st.size : Nat) : Int)) := by show _ = _; omega
        clear hK5 hmp hm0 HK4 HK3 hq1 hq2 hp hl hk1 hb2 hb3 hb4 hb5 hcl hff HKS hqi hwq c0 c1 c2 YJ hy
        generalize ((st.size : Nat) : Int) = z at *
        gi_wp2
        refine wpIn_goto ?_
        rw [hwm, HZ.out]
        exact ⟨rfl, ⟨k + 1, q + st.size, f - 1, _, _, _, _, _, _, _, _, _, _, _, _, _, _, _, _, _, _, _, _, _, _, _, _, _, _, _, _, _, rfl, hJ5, HK6.out, HK7.out, HQ2.out⟩⟩
    · gi_wp2
      rw [jump_normal]
      go_end0
      exact ⟨⟨_, rfl⟩, .inr ⟨_, hJ5⟩⟩
  · rintro a' W ⟨k, p, f, u2, u4, u5, u6, u7, u8, u9, u10, u11, u12, u13, u14, u15, u16, u17, u18, u19, u20, u21, u22, u23, u24, u25, u26, u27, u28, u29, u30, u31, rfl, hJ, hks, hf, hp⟩
    clear h0
    refine (wpIn_wide (n := n)).1 ?_
    obtain ⟨q, hq⟩ : ∃ q, q = p + blanks (l.drop p) := ⟨_, rfl⟩
    obtain ⟨t, ht⟩ : ∃ t, t = firstT (l.drop q) := ⟨_, rfl⟩
    obtain ⟨hq1, hq2, hk1, hk2, hk3, hk4⟩ := pass_pure l k p f q t hks.out hf.out hp hq ht
    have hL := hK _ _ hJ
    have hc := hL.1.cell
    have hcl := hL.1.lt
    unfold S at hc
    have hs1 := slice_from l p hp
    have hs2 := slice_from l q hq1
    have hcr := Lib.hid (run_any 32 32 (l.drop p) W (by rw [List.length_drop]; omega))
    have hsz : (⟨(runL 32 32 (l.drop p)).toArray⟩ : ByteArray).size = blanks (l.drop p) := rfl
    have hqi : Hid (((p : Int) + (blanks (l.drop p) : Nat)) = (q : Int)) := by show _ = _; omega
    have hff := first_fits (l.drop q)
    rw [← ht] at hff
    have hFT := Lib.hid (fun W' hW' => first_any (l.drop q) W' (by rw [List.length_drop]; omega) hW')
    rw [← ht] at hFT
    have HKS := Lib.hid hk2
    have HK3 := Lib.hid hk3
    have HK4 := Lib.hid hk4
    have HQ := Lib.hid hq
    generalize blanks (l.drop p) = bl at *
    unfold S at *
    generalize (⟨(runL 32 32 (l.drop p)).toArray⟩ : ByteArray) = rs at *
    generalize (⟨(l.drop p).toArray⟩ : ByteArray) = sp at *
    generalize (⟨(l.drop q).toArray⟩ : ByteArray) = sq at *
    subst hsz
    clear hk2 hk3 hk4 hq ht hks hf
    have hwq : wrap64 ((p : Int) + (rs.size : Int)) = (q : Int) := by
      have := HQ.out
      unfold wrap64; omega
    gi_wp2_with fail
    refine ⟨trivial, ((callsIn_wide (n := n - 1)).2 hcr.out).mono ?_⟩
    rintro e w1 ⟨rfl, rfl⟩
    gi_wp2_with fail
    rw [hwq]
    refine ⟨trivial, ((callsIn_wide (n := n - 1)).2 (hFT.out _ hL.2)).mono ?_⟩
    rintro e w2 ⟨rfl, hb2⟩
    gi_wp2_with fail
    have hb3 : Below W.heap.size W (w2.alloc (.cells #[.int .u8 t.k, .int .i64 t.n, .int .i64 (q : Int)] 35)) := hb2.alloc hb2.size _
    refine ⟨trivial, ((callsIn_wide (n := n - 1)).2 (lexText_any t q _ (hL.2.later hb3) hff)).mono ?_⟩
    rintro e w4 ⟨rfl, hb4⟩
    have hb5 := hb3.trans (hb4.mono hb3.size)
    have hTB := (TokBox.new w2 t.k t.n q).later hb4
    obtain ⟨c0, c1, c2⟩ := hTB.cells
    have hJ4 := hDr _ _ _ hJ hb5
    have hYY := HY.out k hk1 w4 hJ4
    rw [HKS.out] at hYY
    unfold tokV at hYY
    have YJ := Lib.hid hYY
    have hmz : (⟨(textT t).toArray⟩ : ByteArray).size = (textT t).length := rfl
    unfold S
    generalize (⟨(textT t).toArray⟩ : ByteArray) = st at *
    generalize (textT t).length = m at *
    subst hmz
    clear hYY hJ4 hTB hL hc hs1 hs2 hcr hJ
    obtain ⟨fn, tmps, assign, body, hy, hR⟩ := YJ.out
    gi_wp2
    refine hR.mono ?_
    rintro e w5 (⟨rfl, hJ5⟩ | ⟨-, rfl, hJ5⟩)
    · by_cases hm0 : st.size = 0
      · have hmi : ((st.size : Nat) : Int) = 0 := by omega
        gi_wp2
        rw [jump_normal]
        go_end0
        exact ⟨⟨_, rfl⟩, .inl (by rw [HK3.out hm0]; exact hJ5)⟩
      · have hmi : 0 < ((st.size : Nat) : Int) := by omega
        have hwm : wrap64 ((q : Int) + (st.size : Int)) = (q : Int) + (st.size : Int) := by unfold wrap64; omega
        have hmp : 0 < st.size := by omega
        have hK5 := HK4.out hmp
        have HK6 := Lib.hid hK5.1
        have HK7 := Lib.hid hK5.2
        have HQ2 := Lib.hid hq2
        have HMP := Lib.hid hmp
        have HZ : Hid (((q : Int) + (st.size : Int)) = ((q + st.size : Nat) : Int)) := by show _ = _; omega
        clear hK5 hmp hm0 HK4 HK3 hq1 hq2 hp hl hk1 hb2 hb3 hb4 hb5 hcl hff HKS hqi hwq c0 c1 c2 YJ hy
        generalize ((st.size : Nat) : Int) = z at *
        gi_wp2
        refine wpIn_goto ?_
        rw [hwm, HZ.out]
        refine ⟨rfl, ⟨k + 1, q + st.size, f - 1, _, _, _, _, _, _, _, _, _, _, _, _, _, _, _, _, _, _, _, _, _, _, _, _, _, _, _, _, _, rfl, hJ5, HK6.out, HK7.out, HQ2.out⟩, ?_⟩
        have := HQ.out
        have := HMP.out
        have := HQ2.out
        simp [intOf]
        omega
    · gi_wp2
      rw [jump_normal]
      go_end0
      exact ⟨⟨_, rfl⟩, .inr ⟨_, hJ5⟩⟩
end Go.Proofs.YtkedifhlkiffoaaDoor
