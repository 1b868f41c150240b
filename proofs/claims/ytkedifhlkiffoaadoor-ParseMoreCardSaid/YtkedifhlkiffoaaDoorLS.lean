/-
  Contract of the document's own All at every text: its tokens, in memory of their own, or the error and the place.
-/
import Derived.Test.YtkedifhlkiffoaaDoorLR
import Derived.OwnWalk
namespace Go.Proofs.YtkedifhlkiffoaaDoor
open Go.ChangeShapes Go.WideShapes Go.ChangeAt Go.RowKit
set_option linter.unusedVariables false
set_option linter.unusedSimpArgs false
attribute [local go_sem] Oper.semAt_some
/-- k tokens were told, the next one is looked for from p on. -/
def InvA (s : ByteArray) (k p : Nat) : Prop := p ≤ s.size ∧ ∃ f, (toks s.data.toList).drop k = toksF f p (rest s p) ∧ (rest s p).length < f
theorem rest_len (s : ByteArray) (p : Nat) : (rest s p).length = s.size - p := by unfold rest; rw [List.length_drop]; rfl
theorem rest_cons (s : ByteArray) (p : Nat) (hp : p < s.size) : rest s p = s[p] :: rest s (p + 1) := by
  unfold rest
  rw [List.drop_eq_getElem_cons (show p < s.data.toList.length from hp)]
  rfl
theorem rest_drop (s : ByteArray) (p n : Nat) : (rest s p).drop n = rest s (p + n) := by unfold rest; rw [List.drop_drop]
theorem InvA.start (s : ByteArray) : InvA s 0 0 := ⟨Nat.zero_le _, _, rfl, by unfold rest; simp⟩
theorem InvA.blank {s : ByteArray} {k p : Nat} (h : InvA s k p) (hp : p < s.size) (h32 : s[p] = 32) : InvA s k (p + 1) := by
  obtain ⟨_, f, h1, h2⟩ := h
  refine ⟨hp, f, ?_, by rw [rest_len] at h2 ⊢; omega⟩
  rw [h1]
  obtain ⟨f, rfl⟩ : ∃ g, f = g + 1 := ⟨f - 1, by omega⟩
  have hb : blanks (rest s p) = blanks (rest s (p + 1)) + 1 := by
    unfold blanks
    rw [rest_cons s p hp, h32, run_head, if_pos (by decide)]
    rfl
  have hr : (rest s p).drop (blanks (rest s p)) = (rest s (p + 1)).drop (blanks (rest s (p + 1))) := by
    rw [hb, rest_cons s p hp]; rfl
  simp only [toksF]
  rw [hr, hb, show p + (blanks (rest s (p + 1)) + 1) = p + 1 + blanks (rest s (p + 1)) by omega]
theorem InvA.tok {s : ByteArray} {k p : Nat} (h : InvA s k p) (hp : p < s.size) (h32 : s[p] ≠ 32) :
    (toks s.data.toList)[k]? = some (firstT (rest s p), p) ∧ ((firstT (rest s p)).k ≠ 6 → 0 < (textT (firstT (rest s p))).length ∧ InvA s (k + 1) (p + (textT (firstT (rest s p))).length)) := by
  obtain ⟨_, f, h1, h2⟩ := h
  obtain ⟨f, rfl⟩ : ∃ g, f = g + 1 := ⟨f - 1, by omega⟩
  have hb : blanks (rest s p) = 0 := by
    unfold blanks
    rw [rest_cons s p hp, run_head, not_bl _ h32]; rfl
  simp only [toksF] at h1
  rw [hb, List.drop_zero, Nat.add_zero] at h1
  have hne : rest s p ≠ [] := by rw [rest_cons s p hp]; simp
  have h0 : (toks s.data.toList)[k]? = some (firstT (rest s p), p) := by
    have := congrArg (fun x => x[0]?) h1
    simpa using this
  refine ⟨h0, fun h6 => ?_⟩
  obtain ⟨a1, a2, _⟩ := first_text _ hne h6
  have hpos : 0 < (textT (firstT (rest s p))).length := List.length_pos_iff.2 a2
  have hle := a1.length_le
  rw [rest_len] at hle h2
  refine ⟨hpos, by omega, f, ?_, by rw [rest_len]; omega⟩
  have := congrArg List.tail h1
  rw [List.tail_drop] at this
  rw [this, List.tail_cons, if_neg (by omega), rest_drop]
theorem InvA.done {s : ByteArray} {k : Nat} (h : InvA s k s.size) : toks s.data.toList = (toks s.data.toList).take k ++ [(⟨0, 0⟩, s.size)] := by
  obtain ⟨_, f, h1, h2⟩ := h
  obtain ⟨f, rfl⟩ : ∃ g, f = g + 1 := ⟨f - 1, by omega⟩
  have hr : rest s s.size = [] := List.eq_nil_of_length_eq_zero (by rw [rest_len]; omega)
  rw [hr] at h1
  conv => lhs; rw [← List.take_append_drop k (toks s.data.toList), h1]
  rfl
theorem InvA.k_le {s : ByteArray} {k p : Nat} (h : InvA s k p) : k ≤ (toks s.data.toList).length := by
  obtain ⟨_, f, h1, h2⟩ := h
  obtain ⟨f, rfl⟩ : ∃ g, f = g + 1 := ⟨f - 1, by omega⟩
  rcases Nat.lt_or_ge (toks s.data.toList).length k with hk | hk
  · rw [List.drop_of_length_le (by omega)] at h1
    simp only [toksF] at h1
    cases h1
  · exact hk
set_option maxRecDepth 100000 in
set_option maxHeartbeats 1000000 in
theorem refAll_long (s : ByteArray) (w : World) (hl : 2000 < s.size) :
    Calls Tryd.prog 18 #[.string s] w fun e w' => e = .returned (.tuple #[.slice none 0 0, .int .i64 2000, .int .i64 91]) ∧ Below w.heap.size w w' := by
  have hli : (2000 : Int) < (s.size : Int) := by omega
  go_enter Tryd.func18, Tryd.ntmps18
  go_wp2
  go_ret3
  exact ⟨rfl, Below.refl _ _⟩
/-- What the document's own All has behind k tokens. -/
def RowA (w : World) (s : ByteArray) (k : Nat) (v : Value) (W : World) : Prop :=
  W.ownsRow w.heap.size 35 3 v k (tkCells ((toks s.data.toList).take k)) ∧ Below w.heap.size w W ∧ ∀ x ∈ (toks s.data.toList).take k, x.1.k ≠ 6
set_option maxRecDepth 100000 in
set_option maxHeartbeats 4000000 in
theorem refAll_short (s : ByteArray) (w : World) (hl : s.size ≤ 2000) :
    Calls Tryd.prog 18 #[.string s] w fun e w' => ((∀ x ∈ toks s.data.toList, x.1.k ≠ 6) ∧ (∃ v, e = .returned (.tuple #[v, .int .i64 0, .int .i64 0]) ∧ TksAt w.heap.size v (toks s.data.toList) w') ∧ Below w.heap.size w w') ∨
      ∃ (t : Tk) (p : Nat), (t, p) ∈ toks s.data.toList ∧ t.k = 6 ∧ e = .returned (.tuple #[.slice none 0 0, .int .i64 (p : Nat), .int .i64 70]) ∧ Below w.heap.size w w' := by
  have hli : ¬ (2000 : Int) < (s.size : Int) := by omega
  have hbl := toks_le s.data.toList
  have hsl : s.data.toList.length = s.size := rfl
  rw [hsl] at hbl
  clear hsl
  go_enter Tryd.func18, Tryd.ntmps18
  go_wp2_with fail
  go_loopw [5, 6] (fun v t wr => ∃ k p : Nat, t = .int .i64 p ∧ InvA s k p ∧ RowA w s k v wr) (fun v t _ => s.size - (intOf t).toNat)
  case atStart => exact ⟨0, 0, rfl, InvA.start s, World.ownsRow_nil _ _ _ _, Below.refl _ _, fun x hx => by simp at hx⟩
  case round =>
    obtain ⟨k, p, rfl, hI, hr, hB, hG⟩ := hrel
    have hps := hI.1
    have hk := hI.k_le
    have HI := Lib.hid hI
    have HG := Lib.hid hG
    clear hI hG
    by_cases hlt : p < s.size
    · have hlti : (p : Int) < (s.size : Int) := by omega
      by_cases h32 : s[p] = 32
      · have hb32 : (s[p].toNat : Int) = 32 := by rw [h32]; rfl
        have HI2 := Lib.hid (HI.out.blank hlt h32)
        clear h32 HI
        go_wp2_with fail
        exact ⟨⟨k, p + 1, by go_num, HI2.out, hr, hB, HG.out⟩, by simp [intOf]; omega⟩
      · obtain ⟨ht, hmore⟩ := HI.out.tok hlt h32
        have hb32 : ((s[p].toNat : Int) == 32) = false := by
          rw [beq_eq_false_iff_ne]; intro h; exact h32 (UInt8.toNat_inj.1 (by simp; omega))
        have HN := Lib.hid (next_any s p wr hl hlt)
        clear h32 HI
        generalize firstT (rest s p) = t at *
        by_cases h6 : t.k = 6
        · have hmem := Lib.hid (List.mem_of_getElem? ht)
          have H6 := Lib.hid h6
          have hv : nextV t p = .tuple #[tokV ⟨0, 0⟩ 0, .int .i64 0] := by unfold nextV; rw [if_pos h6]
          rw [hv] at HN
          clear hmore ht h6 hv HG
          go_wp2_with fail
          (with_reducible refine HN.out.mono ?_)
          rintro e w2 ⟨rfl, hb2⟩
          have hB2 := (hB.trans (hb2.mono hB.size)).alloc (hB.trans (hb2.mono hB.size)).size (.cells #[.int .u8 0, .int .i64 0, .int .i64 0] 35)
          go_wp2_with fail
          go_ret3
          exact .inr ⟨t, p, hmem.out, H6.out, rfl, hB2⟩
        · obtain ⟨hpos, hI2⟩ := hmore h6
          have hv : nextV t p = .tuple #[tokV t p, .int .i64 ((textT t).length : Nat)] := by unfold nextV; rw [if_neg h6]
          rw [hv] at HN
          have H6 := Lib.hid h6
          have HI2 := Lib.hid hI2
          have HT := Lib.hid ht
          have hps2 := hI2.1
          have hkl := (List.getElem?_eq_some_iff.1 ht).1
          clear hmore h6 hv hI2 ht
          generalize (textT t).length = n at *
          have hn0 : ((n : Int) == 0) = false := by simp; omega
          have hw : wrap64 ((p : Int) + (n : Int)) = ((p + n : Nat) : Int) := by unfold wrap64; omega
          obtain ⟨i0, hi, hz0, hz1, hz2⟩ := info_parts Tryd.info35
          have hi := Lib.hid hi
          go_wp2_with fail
          (with_reducible refine HN.out.mono ?_)
          rintro e w2 ⟨rfl, hb2⟩
          have hr2 := ((row_later hr hb2).alloc (.cells #[.int .u8 t.k, .int .i64 t.n, .int .i64 (p : Int)] 35)).alloc (.cells #[.int .u8 t.k, .int .i64 t.n, .int .i64 (p : Int)] 35)
          have hB2 := (hB.trans (hb2.mono hB.size)).alloc (hB.trans (hb2.mono hB.size)).size (.cells #[.int .u8 t.k, .int .i64 t.n, .int .i64 (p : Int)] 35)
          have hbs : w.heap.size ≤ w2.heap.size := (hB.trans (hb2.mono hB.size)).size
          have HC3 : Hid (∀ j u, [.int .u8 t.k, .int .i64 t.n, .int .i64 (p : Int)][j]? = some u → ((w2.alloc (.cells #[.int .u8 t.k, .int .i64 t.n, .int .i64 (p : Int)] 35)).alloc (.cells #[.int .u8 t.k, .int .i64 t.n, .int .i64 (p : Int)] 35)).cell? ((⟨w2.heap.size + 1, 0, none⟩ : Addr).add j) = some u) := by
            show ∀ j u, _
            rw [← World.size_alloc w2 (.cells #[.int .u8 t.k, .int .i64 t.n, .int .i64 (p : Int)] 35)]
            exact cell3_new _ _ _ _ _
          have hB3 := hB2.alloc hB2.size (.cells #[.int .u8 t.k, .int .i64 t.n, .int .i64 (p : Int)] 35)
          clear HN hr hB hb2 hB2
          go_wp2_with (at_builtin; refine wpList_append_own _ rfl _ _ 31 rfl w.heap.size 35 i0 (.agg #[.int .u8 0, .int .i64 0, .int .i64 0]) 3 24 Tryd.underlying31 hi.out hz0 hz1 hz2 rfl (by decide) _ _ _ rfl hr2 ⟨w2.heap.size + 1, 0, none⟩ 1 1 [.int .u8 t.k, .int .i64 t.n, .int .i64 (p : Int)] rfl rfl HC3.out (by simp [Value.oneCell']) (by unfold maxLen; omega) (by omega) (by simp; omega) ?_; intro v' w4 hown' hgrow _)
          have hB4 := hB3.grown hgrow hB3.size (fun j e => (hr2.lt j e).1)
          have hne : (toks s.data.toList).take (k + 1) = (toks s.data.toList).take k ++ [(t, p)] := by
            rw [List.take_succ_eq_append_getElem hkl]
            congr 1
            have := HT.out
            rw [List.getElem?_eq_getElem hkl] at this
            rw [Option.some.inj this]
          refine ⟨⟨k + 1, p + n, by go_num, HI2.out, ?_, hB4, fun x hx => ?_⟩, by simp [intOf]; omega⟩
          · rw [hne, ← tkCells_snoc]; exact hown'
          · rw [hne] at hx
            rcases List.mem_append.1 hx with hx | hx
            · exact HG.out x hx
            · obtain rfl := List.mem_singleton.1 hx
              exact H6.out
    · obtain rfl : p = s.size := by omega
      have hdone := HI.out.done
      have HD := Lib.hid hdone
      clear HI hdone
      have hbs := hB.size
      have hr2 := hr.alloc (.cells #[.int .u8 0, .int .i64 0, .int .i64 (s.size : Int)] 35)
      have HC3 := Lib.hid (cell3_new wr (.int .u8 0) (.int .i64 0) (.int .i64 (s.size : Int)) 35)
      have hB3 := hB.alloc hB.size (.cells #[.int .u8 0, .int .i64 0, .int .i64 (s.size : Int)] 35)
      obtain ⟨i0, hi, hz0, hz1, hz2⟩ := info_parts Tryd.info35
      have hi := Lib.hid hi
      clear hr hB
      go_wp2_with (at_builtin; refine wpList_append_own _ rfl _ _ 31 rfl w.heap.size 35 i0 (.agg #[.int .u8 0, .int .i64 0, .int .i64 0]) 3 24 Tryd.underlying31 hi.out hz0 hz1 hz2 rfl (by decide) _ _ _ rfl hr2 ⟨wr.heap.size, 0, none⟩ 1 1 [.int .u8 0, .int .i64 0, .int .i64 (s.size : Int)] rfl rfl HC3.out (by simp [Value.oneCell']) (by unfold maxLen; omega) (by omega) (by simp; omega) ?_; intro v' w4 hown' hgrow _)
      go_ret3
      have hB4 := hB3.grown hgrow hB3.size (fun j e => (hr2.lt j e).1)
      refine .inl ⟨fun x hx => ?_, ⟨v', rfl, ?_⟩, hB4⟩
      · rw [HD.out] at hx
        rcases List.mem_append.1 hx with hx | hx
        · exact HG.out x hx
        · obtain rfl := List.mem_singleton.1 hx
          show (0 : Int) ≠ 6; decide
      · have hlen : (toks s.data.toList).length = k + 1 := by
          have := congrArg List.length HD.out
          rw [List.length_append, List.length_take] at this
          simp at this
          omega
        show w4.ownsRow w.heap.size 35 3 v' (toks s.data.toList).length (tkCells (toks s.data.toList))
        rw [hlen]
        have e : tkCells (toks s.data.toList) = tkCells ((toks s.data.toList).take k) ++ [.int .u8 0, .int .i64 0, .int .i64 (s.size : Int)] := by
          conv => lhs; rw [HD.out]
          rw [← tkCells_snoc]
        rw [e]
        exact hown'
end Go.Proofs.YtkedifhlkiffoaaDoor
