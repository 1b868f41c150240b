/-
  ParseBlanks of stage 9, at every input: the law's call returns true, for any text and any number, where the ways of comparing lie as the program's text lays them; no other condition.
-/
import Derived.Test.YtkedifhlkiffoaaDoorPR
import Derived.Test.YtkedifhlkiffoaaDoorLP
import Derived.Test.YtkedifhlkiffoaaDoorLU
import Derived.Deep.QuietTactic
import Derived.RegionTactic
import Derived.BigRegion
namespace Go.Proofs.YtkedifhlkiffoaaDoor.parseBlanks
open Go.ChangeShapes Go.WideShapes Go.ChangeAt Go.RowKit
open Go.ChangeMaps (open_string shut_string)
open Tree (Tm Cp Sp)
set_option linter.unusedVariables false
set_option linter.unusedSimpArgs false
attribute [local go_sem] Oper.semAt_some
theorem rem_k (a : Int) (n : Nat) (h : 0 < n) (h2 : n ≤ 1001) : ∃ k : Nat, k < n ∧ (wrap64 (a.tmod n + n)).tmod n = k := by
  have hb : -(n : Int) < a.tmod n ∧ a.tmod n < n := by
    rcases Int.le_total 0 a with ha | ha
    · rw [Int.tmod_eq_emod_of_nonneg ha]
      have := Int.emod_nonneg a (show (n : Int) ≠ 0 by omega)
      have := Int.emod_lt_of_pos a (show (0 : Int) < n by omega)
      omega
    · obtain ⟨b, rfl⟩ : ∃ b, a = -b := ⟨-a, by omega⟩
      rw [Int.neg_tmod, Int.tmod_eq_emod_of_nonneg (show 0 ≤ b by omega)]
      have := Int.emod_nonneg b (show (n : Int) ≠ 0 by omega)
      have := Int.emod_lt_of_pos b (show (0 : Int) < n by omega)
      omega
  have hw : wrap64 (a.tmod n + n) = a.tmod n + n := by unfold wrap64; omega
  rw [hw, Int.tmod_eq_emod_of_nonneg (by omega)]
  have h1 := Int.emod_nonneg (a.tmod n + n) (show (n : Int) ≠ 0 by omega)
  have h2 := Int.emod_lt_of_pos (a.tmod n + n) (show (0 : Int) < n by omega)
  exact ⟨((a.tmod n + n) % n).toNat, by omega, by omega⟩
theorem cat4 (l : Bs) (p : Nat) (h : p ≤ l.length) : (⟨l.toArray⟩ : ByteArray).extract 0 p ++ ⟨#[32, 32]⟩ ++ (⟨l.toArray⟩ : ByteArray).extract p l.length = ⟨(putB l p).toArray⟩ := by
  rw [ext_take l p h, ext_drop]
  apply ByteArray.ext
  rw [ByteArray.data_append, ByteArray.data_append]
  simp [putB]
theorem box_later {X Y : World} {p : Nat} {a b : Value} {t : TypeId} (hq : X.heap[p]? = some (.cells #[a, b] t (0, 0))) (hb : Below X.heap.size X Y) :
    Y.heap[p]? = some (.cells #[a, b] t (0, 0)) ∧ Y.cell? ⟨p, 0, none⟩ = some a ∧ Y.cell? ⟨p, 1, none⟩ = some b ∧ ∀ i, Y.frozen? ⟨p, i, none⟩ = false := by
  have h := (hb.block p (Array.getElem?_eq_some_iff.1 hq).1).trans hq
  refine ⟨h, ?_, ?_, fun i => ?_⟩
  · simp [World.cell?, h]
  · simp [World.cell?, h]
  · simp [World.frozen?, h]
/-- What of the two patterns lies where at the end. -/
def FinB (w X : World) (P P3 : Nat) (a : Option Addr) (N c : Nat) (win : Int) (L : List (Sp × Value)) (a5 : Option Addr) (N5 c5 : Nat) (win5 : Int) (L5 : List (Sp × Value)) : Prop :=
  (X.cell? ⟨P, 0, none⟩ = some (.slice a N c) ∧ X.cell? ⟨P, 1, none⟩ = some (.int .i64 win) ∧ X.cell? ⟨P3, 0, none⟩ = some (.slice a5 N5 c5) ∧ X.cell? ⟨P3, 1, none⟩ = some (.int .i64 win5)) ∧
    Tree.SpsL X (.slice a N c) L ∧ Tree.SpsL X (.slice a5 N5 c5) L5 ∧ OpsAt X ∧ Below w.heap.size w X
section
variable {w W3 w5 : World} {P N c N5 c5 : Nat} {a a5 : Option Addr} {win win5 : Int} {L L5 : List (Sp × Value)}
theorem finA (hbC : Below w.heap.size w W3) (ho3 : OpsAt W3) (hS3 : Tree.SpsL W3 (.slice a N c) L) (y0 : W3.cell? ⟨P, 0, none⟩ = some (.slice a N c)) (y1 : W3.cell? ⟨P, 1, none⟩ = some (.int .i64 win)) (hb9 : Below W3.heap.size W3 w5) (hS5 : Tree.SpsL w5 (.slice a5 N5 c5) L5) :
    FinB w (w5.alloc (.cells #[.slice a5 N5 c5, .int .i64 win5] 25)) P w5.heap.size a N c win L a5 N5 c5 win5 L5 := by
  have hk : Below w5.heap.size w5 (w5.alloc (.cells #[.slice a5 N5 c5, .int .i64 win5] 25)) := (Below.refl _ w5).alloc (Nat.le_refl _) _
  have hb : Below W3.heap.size W3 (w5.alloc (.cells #[.slice a5 N5 c5, .int .i64 win5] 25)) := hb9.trans (hk.mono hb9.size)
  have q := World.alloc_heap_new w5 (.cells #[.slice a5 N5 c5, .int .i64 win5] 25)
  have hq := box_later q (Below.refl _ _)
  exact ⟨⟨keep_cell y0 hb, keep_cell y1 hb, hq.2.1, hq.2.2.1⟩, hS3.later hb, hS5.later hk, ho3.later hb, hbC.trans (hb.mono hbC.size)⟩
theorem finB (hbC : Below w.heap.size w W3) (ho3 : OpsAt W3) (hS3 : Tree.SpsL W3 (.slice a N c) L) (y0 : W3.cell? ⟨P, 0, none⟩ = some (.slice a N c)) (y1 : W3.cell? ⟨P, 1, none⟩ = some (.int .i64 win)) (hb9 : Below W3.heap.size W3 w5)
    {s : Nat} (hs : W3.heap.size < s) (hK : ∀ (Y : World) (row : Option Nat), w5.grownBy Y row → (∀ q, row = some q → q < s) → Tree.SpsL Y (.slice a5 N5 c5) L5) {b0 b1 : Value} (q5 : w5.heap[W3.heap.size]? = some (.cells #[b0, b1] 25 (0, 0))) :
    FinB w ((w5.setCell ⟨W3.heap.size, 0, none⟩ (.slice a5 N5 c5)).setCell ⟨W3.heap.size, 1, none⟩ (.int .i64 win5)) P W3.heap.size a N c win L a5 N5 c5 win5 L5 := by
  have g1 := set_grown w5 W3.heap.size 0 (.slice a5 N5 c5)
  have g2 := set_grown (w5.setCell ⟨W3.heap.size, 0, none⟩ (.slice a5 N5 c5)) W3.heap.size 1 (.int .i64 win5)
  have hg : w5.grownBy ((w5.setCell ⟨W3.heap.size, 0, none⟩ (.slice a5 N5 c5)).setCell ⟨W3.heap.size, 1, none⟩ (.int .i64 win5)) (some W3.heap.size) := g1.trans g2
  have hb : Below W3.heap.size W3 ((w5.setCell ⟨W3.heap.size, 0, none⟩ (.slice a5 N5 c5)).setCell ⟨W3.heap.size, 1, none⟩ (.int .i64 win5)) := hb9.grown hg hb9.size (fun j e => by cases e; exact Nat.le_refl _)
  have q6 := box_set (box_set q5 0 (.slice a5 N5 c5)) 1 (.int .i64 win5)
  simp only [List.setIfInBounds_toArray, List.set_cons_zero, List.set_cons_succ] at q6
  have hq := box_later q6 (Below.refl _ _)
  exact ⟨⟨keep_cell y0 hb, keep_cell y1 hb, hq.2.1, hq.2.2.1⟩, hS3.later hb, hK _ _ hg (fun q e => by cases e; exact hs), ho3.later hb, hbC.trans (hb.mono hbC.size)⟩
end
theorem refAll_ok (l : Bs) (w : World) (hl : l.length ≤ 2000) (h : ∀ x ∈ toks l, x.1.k ≠ 6) :
    Calls Tryd.prog 18 #[S l] w fun e w' => ∃ v, e = .returned (.tuple #[v, .int .i64 0, .int .i64 0]) ∧ TksAt w.heap.size v (toks l) w' ∧ Below w.heap.size w w' := by
  refine (refAll_short ⟨l.toArray⟩ w hl).mono ?_
  rintro e w' (⟨-, ⟨v, rfl, hr⟩, hb⟩ | ⟨t, p, h1, h2, _⟩)
  · exact ⟨v, rfl, hr, hb⟩
  · exact absurd h2 (h _ h1)
theorem blanks_out {l : Bs} {k : Nat} {x : Tk × Nat} (h6 : ∀ x ∈ toks l, x.1.k ≠ 6) (hx : (toks l)[k]? = some x) {L L2 : List (Sp × Value)} {win at_ er win2 at2 er2 : Int}
    (h1 : OutP (toks l) L win at_ er) (h2 : OutP (toks (putB l x.2)) L2 win2 at2 er2) :
    (L.map (·.1) = L2.map (·.1) ∧ win = win2) ∧ ((er = 0 ∧ er2 = 0 ∧ at_ = 0 ∧ at2 = 0) ∨ (er = 90 ∧ er2 = 90 ∧ ((x.2 : Int) ≤ at_ ∧ at2 = at_ + 2 ∧ at_ ≤ l.length ∧ 0 ≤ at_ ∨ ¬ (x.2 : Int) ≤ at_ ∧ at2 = at_))) := by
  obtain ⟨-, e2, -⟩ := blanks_pure l h6 k x hx
  rw [e2] at h2
  have hp := patP_congr (farB_fst (toks l) k)
  rcases h1 with ⟨a1, rfl, rfl⟩ | ⟨j, y, a1, a2, rfl, rfl, rfl, rfl⟩
  · rcases h2 with ⟨b1, rfl, rfl⟩ | ⟨j', y', b1, -⟩
    · rw [hp, a1] at b1
      obtain ⟨c1, c2⟩ := Prod.mk.inj (Except.ok.inj b1)
      exact ⟨⟨c1, c2⟩, .inl ⟨rfl, rfl, rfl, rfl⟩⟩
    · rw [hp, a1] at b1; cases b1
  · rcases h2 with ⟨b1, rfl, rfl⟩ | ⟨j', y', b1, b2, rfl, rfl, rfl, rfl⟩
    · rw [hp, a1] at b1; cases b1
    · rw [hp, a1] at b1
      cases b1
      rw [farB_at _ _ _ _ a2] at b2
      have hw := toks_whole l h6
      have hle := (hw.ge y (List.mem_of_getElem? a2)).2
      refine ⟨⟨rfl, rfl⟩, .inr ⟨rfl, rfl, ?_⟩⟩
      by_cases hk : k ≤ j
      · rw [if_pos hk] at b2
        obtain rfl := Option.some.inj b2
        have hxy : x.2 ≤ y.2 := by
          rcases Nat.lt_or_ge k j with hlt | hge
          · exact Nat.le_of_lt (hw.rise k j x y hlt hx a2)
          · obtain rfl : k = j := by omega
            rw [a2] at hx
            rw [Option.some.inj hx]
            exact Nat.le_refl _
        exact .inl ⟨by omega, by simp, by omega, by omega⟩
      · rw [if_neg hk] at b2
        obtain rfl := Option.some.inj b2
        have := hw.rise j k y x (by omega) a2 hx
        exact .inr ⟨by omega, rfl⟩
set_option maxRecDepth 100000 in
set_option maxHeartbeats 1000000 in
theorem blanks_long (s : ByteArray) (at_ : Int) (w : World) (ho : OpsAt w) (h : 1000 < s.size) :
    Calls Tryd.prog 5 #[.string s, .int .i64 at_] w fun e w' => e = .returned (.bool true) ∧ Below w.heap.size w w' := by
  have hd : decide ((1000 : Int) < s.size) = true := by simp; omega
  go_enter Tryd.func5, Tryd.ntmps5
  go_wp2_with fail
  (with_reducible refine (wakes_any9 _ ho).mono ?_)
  rintro e w1 ⟨rfl, hb⟩
  go_wp2
  go_ret
  exact ⟨rfl, hb⟩
set_option maxRecDepth 100000 in
set_option maxHeartbeats 4000000 in
theorem blanks_bad (s : ByteArray) (at_ : Int) (w : World) (ho : OpsAt w) (h : s.size ≤ 1000) (t : Tk) (p : Nat) (ht : (t, p) ∈ toks s.data.toList) (h6 : t.k = 6) :
    Calls Tryd.prog 5 #[.string s, .int .i64 at_] w fun e w' => e = .returned (.bool true) ∧ Below w.heap.size w w' := by
  have hd : decide ((1000 : Int) < s.size) = false := by simp; omega
  have HA := Lib.hid (refAll_short s w (by omega))
  go_enter Tryd.func5, Tryd.ntmps5
  go_wp2_with fail
  (with_reducible refine HA.out.mono ?_)
  rintro e w1 (⟨hno, -⟩ | ⟨t', p', -, -, rfl, hb1⟩)
  · exact absurd h6 (hno _ ht)
  have ho1 := ho.later hb1
  go_wp2_with fail
  (with_reducible refine (wakes_any9 w1 ho1).mono ?_)
  rintro e w2 ⟨rfl, hb2⟩
  go_wp2
  go_ret
  exact ⟨rfl, hb1.trans (hb2.mono hb1.size)⟩
set_option maxRecDepth 100000 in
set_option maxHeartbeats 40000000 in
theorem blanks_ok (l : Bs) (at_ : Int) (w : World) (ho : OpsAt w) (h : l.length ≤ 1000) (h6 : ∀ x ∈ toks l, x.1.k ≠ 6) :
    Calls Tryd.prog 5 #[S l, .int .i64 at_] w fun e w' => e = .returned (.bool true) ∧ Below w.heap.size w w' := by
  have hsz : (⟨l.toArray⟩ : ByteArray).size = l.length := rfl
  have hd : decide ((1000 : Int) < l.length) = false := by simp; omega
  have HA := Lib.hid (refAll_ok l w (by omega) h6)
  have hpos : 0 < (toks l).length := by unfold toks; simp [toksF]
  have hlen : (toks l).length ≤ 1001 := by have := toks_le l; omega
  have HP := Lib.hid (blanks_pure l h6)
  unfold S at *
  go_enter Tryd.func5, Tryd.ntmps5
  go_wp2_with fail
  (with_reducible refine HA.out.mono ?_)
  rintro e w1 ⟨v, rfl, ht1, hb1⟩
  obtain ⟨g1, d1, rfl⟩ := tks_some ht1 hpos
  have ho1 := ho.later hb1
  obtain ⟨n, hn⟩ : ∃ n, (toks l).length = n := ⟨_, rfl⟩
  rw [hn] at hpos hlen ht1 ⊢
  have HN := Lib.hid hn
  have hn0 : ((n : Int) == 0) = false := by simp; omega
  have hn1 : ¬ (n : Int) = 0 := by omega
  obtain ⟨k, hk, ek⟩ := rem_k at_ n hpos hlen
  obtain ⟨x, hx⟩ : ∃ x, (toks l)[k]? = some x := ⟨_, List.getElem?_eq_getElem (by omega)⟩
  clear hn
  obtain ⟨k0, k1, k2⟩ := tks_cell ht1 hx
  have hki : (k : Int) < n := by omega
  have hki0 : (0 : Int) ≤ (k : Int) := by omega
  obtain ⟨hxl, hus, hu6⟩ := HP.out k x hx
  have HC := Lib.hid (cat4 l x.2 hxl)
  have HB := Lib.hid (fun w ho => parse_u (putB l x.2) w (by unfold putB; simp; omega) ho hu6)
  have hlB : (toks (putB l x.2)).length ≤ 4000 := by have := toks_le (putB l x.2); unfold putB at this ⊢; simp at this ⊢; omega
  have HO := Lib.hid (fun (L L2 : List (Sp × Value)) (win at_ er win2 at2 er2 : Int) h1 h2 => blanks_out h6 hx (L := L) (L2 := L2) (win := win) (at_ := at_) (er := er) (win2 := win2) (at2 := at2) (er2 := er2) h1 h2)
  have M1 := Lib.hid (parse_u l w1 (by omega) ho1 h6)
  unfold S at M1 HB
  have hd2 : decide ((l.length : Int) < (x.2 : Nat)) = false := by simp; omega
  have hxi : ((x.2 : Nat) : Int) ≤ (l.length : Int) := by omega
  clear HP hus hu6 HA
  go_wp2_with fail
  (with_reducible refine M1.out.mono ?_)
  rintro e w2 ⟨a, c, L, win, at1, er1, hb2, rfl, hS1, hO1, -⟩
  clear M1 k0 k1 k2
  obtain ⟨N, hN⟩ : ∃ N, L.length = N := ⟨_, rfl⟩
  rw [hN] at hS1 ⊢
  have hSh1 := Lib.hid (hO1.short (by have := toks_le l; omega))
  replace hO1 := Lib.hid hO1
  have hbB : Below w2.heap.size w2 (w2.alloc (.cells #[.slice a N c, .int .i64 win] 25)) := (Below.refl _ w2).alloc (Nat.le_refl _) _
  have q1 := World.alloc_heap_new w2 (.cells #[.slice a N c, .int .i64 win] 25)
  have ho3 := (ho1.later hb2).later hbB
  have hS3 := hS1.later hbB
  have hbC := hb1.trans ((hb2.trans (hbB.mono hb2.size)).mono hb1.size)
  obtain ⟨P, hP⟩ : ∃ P, w2.heap.size = P := ⟨_, rfl⟩
  have y0 : (w2.alloc (.cells #[.slice a N c, .int .i64 win] 25)).cell? ⟨P, 0, none⟩ = some (.slice a N c) := by rw [← hP]; simp only [World.cell?, q1]; rfl
  have y1 : (w2.alloc (.cells #[.slice a N c, .int .i64 win] 25)).cell? ⟨P, 1, none⟩ = some (.int .i64 win) := by rw [← hP]; simp only [World.cell?, q1]; rfl
  clear q1 hbB hS1
  go_upto_region 8 with fail
  have M2 := Lib.hid (HB.out _ (ho3.later (Below.refl _ _).drew))
  obtain ⟨W3, hW3⟩ : ∃ W, w2.alloc (.cells #[.slice a N c, .int .i64 win] 25) = W := ⟨_, rfl⟩
  rw [hW3] at ho3 hS3 hbC y0 y1 M2
  have hA3 : Below W3.heap.size W3 (W3.alloc (.cells #[.slice none 0 0, .int .i64 0] 25)).drew := ((Below.refl _ W3).alloc (Nat.le_refl _) _).drew
  have M3 := Lib.hid (HB.out (W3.alloc (.cells #[.slice none 0 0, .int .i64 0] 25)).drew (ho3.later hA3))
  have q3 : (W3.alloc (.cells #[.slice none 0 0, .int .i64 0] 25)).drew.heap[W3.heap.size]? = some (.cells #[.slice none 0 0, .int .i64 0] 25 (0, 0)) := World.alloc_heap_new W3 (.cells #[.slice none 0 0, .int .i64 0] 25)
  have s3 : W3.heap.size < (W3.alloc (.cells #[.slice none 0 0, .int .i64 0] 25)).drew.heap.size := by show W3.heap.size < (W3.alloc (.cells #[.slice none 0 0, .int .i64 0] 25)).heap.size; simp
  have hC1 := HC.out
  go_region_with (first
    | ((with_reducible refine M2.out.mono ?_); rintro e w5 ⟨a5, c5, L5, win5, at5, er5, hb5, rfl, hS5, hO5, hK5⟩; have hb9 := (Below.refl W3.heap.size W3).drew.trans hb5)
    | ((with_reducible refine M3.out.mono ?_); rintro e w5 ⟨a5, c5, L5, win5, at5, er5, hb5, rfl, hS5, hO5, hK5⟩; have hb9 := hA3.trans (hb5.mono hA3.size); obtain ⟨q5, z0, z1, z2⟩ := box_later q3 hb5))
  all_goals
    obtain ⟨hss, hcase⟩ := HO.out _ _ _ _ _ _ _ _ hO1.out hO5
    have hSh5 := hO5.short hlB
    have hF := (by first | exact finB hbC ho3 hS3 y0 y1 hb9 s3 hK5 q5 (win5 := win5) | exact finA hbC ho3 hS3 y0 y1 hb9 hS5 (win5 := win5))
    clear HO HB HC M2 M3 hC1 hA3 q3 s3 hS5 hK5 hb5 hb9 hO5 hO1 hbC ho3 hS3 y0 y1 hlB
    try clear q5 z0 z1 z2
    first
      | generalize (w5.setCell ⟨W3.heap.size, 0, none⟩ (.slice a5 L5.length c5)).setCell ⟨W3.heap.size, 1, none⟩ (.int .i64 win5) = X at hF ⊢
      | generalize w5.alloc (.cells #[.slice a5 L5.length c5, .int .i64 win5] 25) = X at hF ⊢
    obtain ⟨N5, hN5⟩ : ∃ N, L5.length = N := ⟨_, rfl⟩
    rw [hN5] at hF ⊢
    obtain ⟨⟨z4, z5, z6, z7⟩, hSa, hSb, hoX, hbX⟩ := hF
    replace hSa := Lib.hid hSa
    replace hSb := Lib.hid hSb
    replace hoX := Lib.hid hoX
    replace hbX := Lib.hid hbX
    replace hss := Lib.hid hss
    replace hSh5 := Lib.hid hSh5
    rcases hcase with ⟨rfl, rfl, rfl, rfl⟩ | ⟨rfl, rfl, ⟨hle, rfl, hl1, hl2⟩ | ⟨hle, rfl⟩⟩
    · go_wp2_with fail
      (with_reducible refine (Tree.refSame_V win win5 hSh1.out hSh5.out _ hSa.out hSb.out).mono ?_)
      rintro e w7 ⟨he, hb7⟩
      have he2 : e = .returned (.bool true) := by rw [he]; simp [hss.out.1, hss.out.2]
      subst he2
      clear he
      go_wp2_with fail
      (with_reducible refine (wakes_any9 w7 (hoX.out.later hb7)).mono ?_)
      rintro e w8 ⟨rfl, hb8⟩
      go_wp2
      go_ret
      exact ⟨rfl, hbX.out.trans ((hb7.trans (hb8.mono hb7.size)).mono hbX.out.size)⟩
    · have hw2 : wrap64 (at1 + 2) = at1 + 2 := by unfold wrap64; omega
      go_wp2_with fail
      (with_reducible refine (Tree.refSame_V win win5 hSh1.out hSh5.out _ hSa.out hSb.out).mono ?_)
      rintro e w7 ⟨he, hb7⟩
      have he2 : e = .returned (.bool true) := by rw [he]; simp [hss.out.1, hss.out.2]
      subst he2
      clear he
      go_wp2_with fail
      (with_reducible refine (wakes_any9 w7 (hoX.out.later hb7)).mono ?_)
      rintro e w8 ⟨rfl, hb8⟩
      go_wp2
      go_ret
      exact ⟨rfl, hbX.out.trans ((hb7.trans (hb8.mono hb7.size)).mono hbX.out.size)⟩
    · go_wp2_with fail
      (with_reducible refine (Tree.refSame_V win win5 hSh1.out hSh5.out _ hSa.out hSb.out).mono ?_)
      rintro e w7 ⟨he, hb7⟩
      have he2 : e = .returned (.bool true) := by rw [he]; simp [hss.out.1, hss.out.2]
      subst he2
      clear he
      go_wp2_with fail
      (with_reducible refine (wakes_any9 w7 (hoX.out.later hb7)).mono ?_)
      rintro e w8 ⟨rfl, hb8⟩
      go_wp2
      go_ret
      exact ⟨rfl, hbX.out.trans ((hb7.trans (hb8.mono hb7.size)).mono hbX.out.size)⟩
theorem walk (s : ByteArray) (at_ : Int) (w : World) (ho : OpsAt w) (hs : s.size ≤ maxLen) (hat : (Lit.int .i64 at_).wf = true) :
    Calls Tryd.prog 5 #[.string s, .int .i64 at_] w fun e w' => e = .returned (.bool true) ∧ Below w.heap.size w w' := by
  by_cases h : 1000 < s.size
  · exact blanks_long s at_ w ho h
  have hl : s.data.toList.length ≤ 1000 := by have : s.data.toList.length = s.size := rfl; omega
  by_cases h6 : ∀ x ∈ toks s.data.toList, x.1.k ≠ 6
  · exact blanks_ok s.data.toList at_ w ho hl h6
  · obtain ⟨x, hx⟩ : ∃ x, x ∈ toks s.data.toList ∧ x.1.k = 6 := by
      refine Classical.byContradiction fun hn => h6 fun x hx he => hn ⟨x, hx, he⟩
    exact blanks_bad s at_ w ho (by omega) x.1 x.2 hx.1 hx.2
set_option maxRecDepth 100000 in
theorem lifted (os : Os) (started : os.Started) (H : Type) (enc : TypeId × Value → H) :
    ReturnsInHanded {} Tryd.checked os 5 .any (fun w args => (Rows.parseBlanksSpec.pre enc Tryd.prog Tryd.f5 [] false w args ∧ laidMetH Tryd.prog laid1 w) ∧ sizedMet enc Tryd.prog Tryd.f5 (OpenSpec.ofChange Rows.parseBlanksSpec) false w args)
      (Rows.parseBlanksSpec.post enc Tryd.prog Tryd.f5 false true false false) := by
  refine returnsInHanded_of_change_and (C := Tryd.checked) (X := fun w _ => laidMetH Tryd.prog laid1 w) (fun _ _ _ hh h => h.of_heap hh) own started (by kernel_rfl) Tryd.func5
    (ChangeSpec.witness_shaped (enc := enc) (C := Tryd.checked) (os := os) (X := fun w _ => laidMetH Tryd.prog laid1 w) false (World.doorLaid Tryd.prog 400 os) #[.string ⟨#[]⟩, .int .i64 0] 8 rfl (World.shaped_of_RefB (by kernel_rfl) (by kernel_rfl)) (by kernel_rfl) (by kernel_rfl) (by kernel_rfl) (door_met os _)) ?_
  intro W base args ds gs before hval0 hW _ _ hL _
  have hval : ∀ (j : Nat) t v, Tryd.f5.params[j]? = some t → args[j]? = some v → Value.okWide Tryd.prog W .any base t v := hval0
  have hW' := hW
  obtain ⟨p, q, hA0, hV, rfl, hfz, hnd⟩ := hW
  have hA : DataW.TrodAll enc Tryd.prog W 0 (fun _ => true) true Tryd.f5.params.toList args.toList ds p := hA0
  rw [Tryd.params5] at hA hval
  obtain ⟨v0, vs0, d0, ds0, p0, q0, hargs, rfl, rfl, h0, r0⟩ := trodAll_cons hA
  obtain ⟨v1, vs1, d1, ds1, p1, q1, rfl, rfl, rfl, h1, r1⟩ := trodAll_cons r0
  obtain ⟨rfl, rfl, rfl⟩ := trodAll_nil r1
  obtain rfl : args = #[v0, v1] := by cases args; simp_all
  obtain ⟨rfl, rfl⟩ := trodVars_none hV
  obtain ⟨a0, rfl, rfl, rfl, w0⟩ := open_string Tryd.underlying9 (hval 0 9 v0 rfl rfl) h0
  obtain ⟨a1, rfl, rfl, rfl, w1⟩ := open_int Tryd.underlying3 (hval 1 3 v1 rfl rfl) h1
  have ho := ops_of_laid hL
  clear hA0 hval0
  refine (walk a0 a1 W ho w0 w1).mono fun e W' ⟨he, bel⟩ => ?_
  subst he
  exact ⟨_, rfl, _, _, _, [], _, [], hW', trodAll_mk1 (shut_bool Tryd.underlying4 _), (trodAll_cons_mk (shut_string Tryd.underlying9 w0) (trodAll_cons_mk (shut_int Tryd.underlying3 w1) trodAll_mk0)), rfl, bel.frame _, fun h => by cases h⟩

theorem over : Rows.parseBlanksRow.holds Tryd.pinned (OpenSpec.ofChange Rows.parseBlanksSpec) :=
  OpenClaim.holds_of_wide 5 Tryd.f5 rfl rfl rfl rfl rfl rfl rfl ⟨rfl, rfl, rfl, rfl, rfl⟩ rfl rfl rfl rfl rfl (by kernel_rfl) Tryd.func5 (by kernel_rfl)
    (of_decide_eq_true (by kernel_rfl)) (by unfold Func.isWrapper; first | (rw [if_pos (by decide +kernel)]; kernel_rfl) | (rw [if_neg (by decide +kernel)]; exact ⟨rfl, rfl⟩))
    (fun os started H enc _ => lifted os started H enc)

theorem proved : Rows.ParseBlanksCardSaid :=
  Claim7.holds_tied_plain_at .later [] [.data] true (true, "8951fcf2f1aa268f231726c1c9c9cc5d68f7a7c78d087fffac500afabcc0f7a2") true
    over (fun _ h => by cases h) (by kernel_rfl) (fun _ h => by cases h) parseBlanks_row_tie rfl ⟨rfl, rfl⟩ (by kernel_rfl) rfl
    (fun f fn hf hfn => by
      obtain rfl : f = 5 := Option.some.inj ((show Tryd.prog.funcNamed "straggle/stragglelaw09.ParseBlanks" = some 5 by kernel_rfl).symm.trans hf) |>.symm
      obtain rfl : fn = Tryd.f5 := (Option.some.inj (Tryd.func5.symm.trans hfn)).symm
      exact ⟨by kernel_rfl, fun j t ht => by
        rw [Tryd.params5] at ht
        have hm : t ∈ [9, 3] := by simpa using Array.mem_of_getElem? ht
        have hall : ([9, 3].all fun u => !Tryd.prog.wantsStandIn u) = true := by kernel_rfl
        exact (show Tryd.prog.wantsStandIn t = false by simpa using List.all_eq_true.1 hall t hm)⟩)
    (by kernel_rfl)
#print axioms proved
end Go.Proofs.YtkedifhlkiffoaaDoor.parseBlanks
