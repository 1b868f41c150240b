/-
  SplitParts of stage 6, at every input: the law's call returns true, for any two slices of bytes; no condition.
-/
import Derived.Test.YtepbjjddpfejnaaAL
namespace Go.Proofs.Ytepbjjddpfejnaa.splitParts
open Go.ChangeShapes Go.WideShapes Go.ChangeAt Go.RowKit
set_option linter.unusedVariables false
set_option linter.unusedSimpArgs false
set_option maxRecDepth 100000 in
set_option maxHeartbeats 2000000 in
theorem parts_long (a b : Option Addr) (la lb ca cb : Nat) (w : World) (h : 1000 < la ∨ 1000 < lb) (hma : la ≤ maxLen) (hmb : lb ≤ maxLen) :
    Calls Try.prog 4 #[.slice a la ca, .slice b lb cb] w fun e w' => e = .returned (.bool true) ∧ Below w.heap.size w w' := by
  unfold maxLen at hma hmb
  by_cases h1 : 1000 < la
  · have hd : decide ((1000 : Int) < la) = true := by simp; omega
    go_enter Try.func4, Try.ntmps4
    go_wp2_with fail
    (with_reducible refine (wakes_any _).mono ?_)
    rintro e w1 ⟨rfl, hb⟩
    go_wp2
    go_ret
    exact ⟨rfl, hb⟩
  · have hd : decide ((1000 : Int) < la) = false := by simp; omega
    have hd2 : decide ((1000 : Int) < lb) = true := by simp; omega
    go_enter Try.func4, Try.ntmps4
    go_wp2_with fail
    (with_reducible refine (wakes_any _).mono ?_)
    rintro e w1 ⟨rfl, hb⟩
    go_wp2
    go_ret
    exact ⟨rfl, hb⟩
theorem two_kept {W W' : World} {base : Nat} {v : Value} {L : List (Pc × Value)} {g o : Nat} {u : Value} {W0 : World} (h : PcsL base v L W) (hv : v.ownBlock ≠ some g) (hg : W.heap[g]? = W0.heap[g]?) (hc : ∃ cs fz, W.heap[g]? = some (.cells cs 28 fz)) (he : W' = W.setCell ⟨g, o, none⟩ u) : PcsL base v L W' := by
  subst he
  obtain ⟨cs, fz, hc⟩ := hc
  refine ⟨h.1.kept (grownBy_setCell_any W g o u) (.inr hv), h.2.kept (grownBy_setCell_any W g o u) (fun r e => ?_)⟩
  cases e
  exact ⟨_, hc, by rintro cs' fz' ⟨⟩⟩
/-- Between two rounds of the law. -/
def PartsIn (w w1 w4 : World) (d : Nat) (V1 V2 V5 : Value) (L1 L2 L5 : List (Pc × Value)) (k : Nat) (wr : World) : Prop :=
  k ≤ L2.length ∧ wr.ownsRow w1.heap.size 28 3 V2 L2.length (pcCells (shTo d k L2)) ∧ PcRows w1.heap.size L2 wr ∧ PcsL w.heap.size V1 L1 wr ∧ PcsL w4.heap.size V5 L5 wr ∧ Below w.heap.size w wr ∧ w4.heap.size ≤ wr.heap.size
set_option maxRecDepth 100000 in
set_option maxHeartbeats 8000000 in
theorem parts_main (sa sb : Value) (za zb : List Int) (w : World) (hsa : Scr sa za w) (hsb : Scr sb zb w) (hla : za.length ≤ 1000) (hlb : zb.length ≤ 1000) :
    Calls Try.prog 4 #[sa, sb] w fun e w' => e = .returned (.bool true) ∧ Below w.heap.size w w' := by
  obtain ⟨i5, h5i, h5z, h5s, h5b⟩ := info_parts Try.info5
  have h5i := Lib.hid h5i
  have hbyt : ∀ z ∈ za ++ zb, isByte z := fun z hz => (List.mem_append.1 hz).elim (scr_bytes hsa z) (scr_bytes hsb z)
  obtain ⟨a1, c1, rfl⟩ := hsa.shape
  obtain ⟨b1, d1, rfl⟩ := hsb.shape
  have hd1 : decide ((1000 : Int) < za.length) = false := by simp; omega
  have hd2 : decide ((1000 : Int) < zb.length) = false := by simp; omega
  go_enter Try.func4, Try.ntmps4
  go_wp2_with fail
  (with_reducible refine (all_any _ za w hsa (by omega)).mono ?_)
  rintro e w1 ⟨V1, rfl, ⟨L1, hL1, hp1⟩, hb1⟩
  have hbl1 : ∀ r, V1.ownBlock = some r → r < w1.heap.size := fun r e => (hp1.1.lt r e).2
  have hLc : L1.length = cnt za := by have := congrArg List.length hL1; rwa [List.length_map, pcsOf, pcsTo_len] at this
  by_cases h0 : L1.length = 0
  · have hnc : noCut za := fun k hk => by omega
    obtain ⟨A1, C1, hV1⟩ := pcsL_shape hp1
    rw [h0] at hV1
    subst hV1
    have H0 := Lib.hid h0
    have HLc := Lib.hid hLc
    clear h0 hLc
    go_wp2_with fail
    (with_reducible refine (all_any _ zb w1 (hsb.later hb1) (by omega)).mono ?_)
    rintro e w2 ⟨V2, rfl, ⟨L2, hL2, hp2⟩, hb2⟩
    have hB2 := hb1.trans (hb2.mono hb1.size)
    have hl2b : L2.length ≤ 1000 := by
      have h1 := congrArg List.length hL2
      rw [List.length_map, pcsOf, pcsTo_len] at h1
      have := cnt_le zb
      omega
    have hp12 := hp1.later hb2
    have hbl2 : ∀ r, V2.ownBlock = some r → r < w2.heap.size := fun r e => (hp2.1.lt r e).2
    obtain ⟨A2, C2, hV2⟩ := pcsL_shape hp2
    have hsa2 := hsa.later (hB2.alloc hB2.size (.cells #[] 5))
    have hE := empty_row w2 5 1
    subst hV2
    go_wp2_with (first | (at_builtin; refine wpList_append_scr rfl _ _ 22 rfl w2.heap.size i5 Try.underlying22 h5i.out h5z h5s h5b _ 0 [] rfl hE _ za rfl hsa2 (by omega) (by simp) ?_; intro v3 w3 hown3 hgrow3 hsome3; rw [Nat.zero_add] at hown3 hsome3; rw [List.nil_append] at hown3; obtain ⟨g3, c3, rfl⟩ := hsome3.resolve_left (fun e => by cases e); have hb23 : Below w2.heap.size w2 w3 := ((Below.refl _ _).alloc (Nat.le_refl _) _).grown hgrow3 (by simp) (fun j e => by cases e; exact Nat.le_refl _); have hsb3 := hsb.later (hB2.trans (hb23.mono hB2.size))) | (at_builtin; refine wpList_append_scr rfl _ _ 22 rfl w2.heap.size i5 Try.underlying22 h5i.out h5z h5s h5b _ _ _ rfl hown3 _ zb rfl hsb3 (by omega) hb23.size ?_; intro v4 w4 hown4 hgrow4 hsome4; obtain ⟨g4, c4, rfl⟩ := hsome4.resolve_left (fun e => by cases e); have hb24 : Below w2.heap.size w2 w4 := hb23.grown hgrow4 hb23.size (fun j e => (hown3.lt j e).1)))
    clear hsb3 hsa2 hown3 hgrow3 hgrow4 hE hb23 hsome3 hsome4
    have hown4' : w4.ownsRow w2.heap.size 5 1 (.slice (some ⟨g4, 0, none⟩) (za ++ zb).length c4) (za ++ zb).length (cellsU (za ++ zb)) := by
      rw [cellsU_app, List.length_append]
      exact hown4
    have hB4 := hB2.trans (hb24.mono hB2.size)
    have hscr4 := scr_of_own hown4' hbyt
    have hlab : za.length + zb.length = (za ++ zb).length := by rw [List.length_append]
    rw [hlab]
    (with_reducible refine (all_any _ (za ++ zb) w4 hscr4 (by rw [List.length_append]; omega)).mono ?_)
    rintro e w5 ⟨V5, rfl, ⟨L5, hL5, hp5⟩, hb5⟩
    rw [pcs_append za zb hnc] at hL5
    have hl5 : L5.length = L2.length := by
      have h0 := H0.out
      have := congrArg List.length hL5
      rw [List.length_map, List.length_append, List.length_map, ← hL1, ← hL2, List.length_map, List.length_map] at this
      omega
    have hB5 := hB4.trans (hb5.mono hB4.size)
    have hp15 : PcsL w.heap.size _ L1 w5 := (hp12.later hb24).later hb5
    have hp25 := (hp2.later hb24).later hb5
    have hge5 : ∀ r, V5.ownBlock = some r → w4.heap.size ≤ r := fun r e => (hp5.1.lt r e).1
    obtain ⟨A5, C5, hV5⟩ := pcsL_shape hp5
    rw [hl5] at hV5
    subst hV5
    have hb54 := hb5.size
    have hb42 := hb24.size
    clear hown4 hown4' hscr4 hb24 hb5 hp12 hp2 hlab hB2 hb2
    go_wp2_with fail
    go_loopw [8] (fun t wr => ∃ k : Nat, t = .int .i64 k ∧ PartsIn w w1 w4 za.length (.slice A1 0 C1) (.slice A2 L2.length C2) (.slice A5 (L2.length) C5) L1 L2 L5 k wr) (fun t _ => L2.length - (intOf t).toNat)
    case atStart => exact ⟨0, rfl, Nat.zero_le _, by rw [shTo_zero]; exact hp25.1, hp25.2, hp15, hp5, hB5, hb54⟩
    case round =>
      clear hp25 hp15 hp5 hB5
      obtain ⟨k, rfl, hk, hr2, hs2, hp1r, hp5r, hB, hsz⟩ := hrel
      by_cases hlt : k < L2.length
      · obtain ⟨g2, rfl⟩ : ∃ g2, A2 = some ⟨g2, 0, none⟩ := by
          rcases hr2.2 with ⟨e, _⟩ | ⟨g2, cc, cur, e, _⟩
          · injection e with e1 e2 e3; omega
          · injection e with e1 e2 e3; exact ⟨_, e1⟩
        obtain ⟨x, hx⟩ : ∃ x, L2[k]? = some x := ⟨_, List.getElem?_eq_getElem hlt⟩
        have hc := hr2.cellAt (k * 3) (by omega)
        rw [(pcCells_at (shTo_at za.length k L2 hx)).1] at hc
        have hfz := hr2.frozenAt (k * 3)
        have hst := hr2.stored (k * 3) (.int .i64 ((x.1.at_ + za.length : Nat) : Int))
        rw [shTo_set za.length k L2 hx] at hst
        have hxb : x.1.at_ ≤ 1000 := by
          have hm : x.1 ∈ pcsOf zb := by rw [← hL2]; exact List.mem_map.2 ⟨x, List.mem_of_getElem? hx, rfl⟩
          obtain ⟨j, hj, hj2⟩ := List.mem_map.1 hm
          have hj : j < cnt zb := by simpa using hj
          rw [← hj2]
          show placeOf zb j ≤ 1000
          have := place_lt zb hj
          omega
        have hki : (k : Int) < L2.length := by omega
        have hg1 := (hr2.lt g2 rfl).1
        have hg2 := hbl2 g2 rfl
        have hobj : ∃ cs fz, wr.heap[g2]? = some (.cells cs 28 fz) := by
          rcases hr2.2 with ⟨e, _⟩ | ⟨g', cc, cur, e, _, hh, _⟩
          · injection e with e1 e2 e3; cases e1
          · injection e with e1 e2 e3
            cases e1
            exact ⟨_, _, hh⟩
        go_wp2_with fail
        have hcast : ((x.1.at_ : Int) + (za.length : Int)) = ((x.1.at_ + za.length : Nat) : Int) := by omega
        rw [hcast]
        refine ⟨⟨k + 1, by go_num, by omega, hst.1, ?_, ?_, ?_, hB.setCell (by have := hb1.size; simp; omega) _, by simpa [World.setCell] using hsz⟩, by simp [intOf] <;> omega⟩
        · obtain ⟨cs, fz, hcs⟩ := hobj
          exact hs2.kept hst.2 (fun r e => by cases e; exact ⟨_, hcs, by rintro cs' fz' ⟨⟩⟩)
        · exact two_kept (W0 := wr) hp1r (fun e => by have := hbl1 _ e; omega) rfl hobj rfl
        · exact two_kept (W0 := wr) hp5r (fun e => by have := hge5 _ e; omega) rfl hobj rfl
      · obtain rfl : k = L2.length := by omega
        obtain ⟨i42, h42, h42z, h42s, h42b⟩ := info_parts Try.info42
        have h42 := Lib.hid h42
        obtain ⟨i28, h28, h28z, h28s, h28b⟩ := info_parts Try.info28
        have h28 := Lib.hid h28
        have hmap := shTo_map za.length L2
        rw [hL2] at hmap
        have hrows2 : PcRows w1.heap.size (shTo za.length L2.length L2) wr := shTo_rows hs2
        have hself := recs_self (za ++ zb) hbyt
        have hra := Lib.hid (recs_append za zb hnc)
        have hla1 : (recsOf za).length ≤ 1000 := by have := recsTo_len za (cnt za); have := cnt_le za; show (recsTo za (cnt za)).length ≤ 1000; omega
        have hlb1 : (recsOf zb).length ≤ 1000 := by have := recsTo_len zb (cnt zb); have := cnt_le zb; show (recsTo zb (cnt zb)).length ≤ 1000; omega
        have hE6 := empty_row wr 42 8
        have hsa6 := hsa.later (hB.alloc hB.size (.cells #[] 42))
        have hWK := Lib.hid wakes_any
        have hl1k : L1.length ≤ 1000 := by have := cnt_le za; have := HLc.out; omega
        clear hs2 hlt hk hd1 hd2
        go_wp2_with fail
        (with_reducible refine (recs_any _ za _ hsa6 (by omega)).mono ?_)
        rintro e w7 ⟨V7, rfl, hr7, hb7⟩
        have hb67 : Below wr.heap.size wr w7 := ((Below.refl _ _).alloc (Nat.le_refl _) _).trans (hb7.mono (by simp))
        have hE7 := row_later hE6 hb7
        obtain ⟨A7, C7, hV7⟩ := rcs_shape2 hr7
        subst hV7
        clear hE6 hsa6 hb7
        go_wp2_with (at_builtin; refine wpList_append_row rfl _ _ 34 rfl wr.heap.size 42 i42 (RV 0 0 0 0 0 0 0 0 0) 8 72 Try.underlying34 h42.out h42z h42s h42b rfl (by decide) _ 0 [] rfl hE7 _ _ _ (rcCells (recsOf za)) rfl hr7 (rc_ones _) (by unfold maxLen; omega) (by omega) hb67.size ?_; intro v8 w8 hown8 hgrow8 hsome8; rw [Nat.zero_add] at hown8 hsome8; rw [List.nil_append] at hown8; obtain ⟨g8, c8, rfl⟩ := hsome8.resolve_left (fun e => by cases e); have hb68 := hb67.grown hgrow8 hb67.size (fun j e => by cases e; exact Nat.le_refl _); have hsb8 := hsb.later (hB.trans (hb68.mono hB.size)))
        clear hE7 hr7 hgrow8 hsome8 hb67
        (with_reducible refine (recs_any _ zb _ hsb8 (by omega)).mono ?_)
        rintro e w9 ⟨V9, rfl, hr9, hb9⟩
        have hb69 := hb68.trans (hb9.mono hb68.size)
        have hown9 := row_later hown8 hb9
        obtain ⟨A9, C9, hV9⟩ := rcs_shape2 hr9
        subst hV9
        clear hown8 hsb8 hb68 hb9
        go_wp2_with (first
          | (at_builtin; refine wpList_append_row rfl _ _ 34 rfl wr.heap.size 42 i42 (RV 0 0 0 0 0 0 0 0 0) 8 72 Try.underlying34 h42.out h42z h42s h42b rfl (by decide) _ _ _ rfl hown9 _ _ _ (rcCells (recsOf zb)) rfl hr9 (rc_ones _) (by unfold maxLen; omega) (by omega) hb69.size ?_; intro v10 w10 hown10 hgrow10 hsome10; obtain ⟨g10, c10, rfl⟩ := hsome10.resolve_left (fun e => by cases e); have hb610 := hb69.grown hgrow10 hb69.size (fun j e => (hown9.lt j e).1); have hE10 := empty_row w10 28 3; have hp1t := PcsL.later hp1r (hb610.alloc hb610.size (.cells #[] 28)))
          | (at_builtin; refine wpList_append_row rfl _ _ 24 rfl w10.heap.size 28 i28 (.agg #[.int .i64 0, .slice none 0 0, .bool false]) 3 40 Try.underlying24 h28.out h28z h28s h28b rfl (by decide) _ 0 [] rfl hE10 _ _ _ (pcCells L1) rfl hp1t.1 (pc_ones L1 hp1t.2) (by unfold maxLen; omega) (by omega) (by simp) ?_; intro v11 w11 hown11 hgrow11 hsome11; rw [Nat.zero_add] at hown11 hsome11; rw [List.nil_append] at hown11; obtain ⟨g11, c11, rfl⟩ := hsome11.resolve_left (fun e => by cases e); have hb1011 : Below w10.heap.size w10 w11 := ((Below.refl _ _).alloc (Nat.le_refl _) _).grown hgrow11 (by simp) (fun j e => by cases e; exact Nat.le_refl _); have hb611 := hb610.trans (hb1011.mono hb610.size); have hr2t := row_later hr2 hb611; have hrw2t := hrows2.later hb611)
          | (at_builtin; refine wpList_append_row rfl _ _ 24 rfl w10.heap.size 28 i28 (.agg #[.int .i64 0, .slice none 0 0, .bool false]) 3 40 Try.underlying24 h28.out h28z h28s h28b rfl (by decide) _ _ _ rfl hown11 _ _ _ (pcCells (shTo za.length L2.length L2)) rfl hr2t (pc_ones _ hrw2t) (by unfold maxLen; omega) (by omega) hb1011.size ?_; intro v12 w12 hown12 hgrow12 hsome12; obtain ⟨g12, c12, rfl⟩ := hsome12.resolve_left (fun e => by cases e); have hb1012 : Below w10.heap.size w10 w12 := hb1011.grown hgrow12 hb1011.size (fun j e => (hown11.lt j e).1)))
        have hb612 := hb610.trans (hb1012.mono hb610.size)
        have hB12 := hB.trans (hb612.mono hB.size)
        have hpA : PcsAt w4.heap.size (.slice A5 (L2.length) C5) (pcsOf za ++ (pcsOf zb).map (Pc.up za.length)) w12 := ⟨L5, hL5, PcsL.later hp5r hb612⟩
        have hpB : PcsAt w.heap.size (.slice (some ⟨g12, 0, none⟩) (L1.length + L2.length) c12) (pcsOf za ++ (pcsOf zb).map (Pc.up za.length)) w12 := by
          refine ⟨L1 ++ shTo za.length L2.length L2, by rw [List.map_append, hL1, hmap], ?_, ?_⟩
          · rw [List.length_append, shTo_len _ _ _ (Nat.le_refl _), pcCells_app]
            exact row_base hown12 (by have := hb610.size; have := hB.size; omega)
          · intro x hx
            rcases List.mem_append.1 hx with hx | hx
            · exact (PcsL.later hp1r hb612).2 x hx
            · exact row_base ((hrows2.later hb612) x hx) hb1.size
        have hpby : PcBytes (pcsOf za ++ (pcsOf zb).map (Pc.up za.length)) := by
          rw [← pcs_append za zb hnc]
          exact pcs_bytes _ hbyt
        have hpl : (pcsOf za ++ (pcsOf zb).map (Pc.up za.length)).length ≤ 4000 := by
          have e1 : (pcsOf za).length = cnt za := pcsTo_len za _
          have e2 : (pcsOf zb).length = cnt zb := pcsTo_len zb _
          have := cnt_le za
          have := cnt_le zb
          rw [List.length_append, List.length_map]
          omega
        have hR10 : RcsAt wr.heap.size (.slice (some ⟨g10, 0, none⟩) ((recsOf za).length + (recsOf zb).length) c10) (recsOf (za ++ zb)) w10 := by
          unfold RcsAt
          rw [hra.out, List.length_append, rcCells_app]
          exact hown10
        have hR12 := hR10.later hb1012
        clear hown12 hgrow12 hsome12 hown11 hgrow11 hsome11 hown10 hgrow10 hsome10 hb1011 hb611 hr2t hrw2t hE10 hp1t hb1012 hb610 hR10 hown9 hr9 hb69 hrows2 hp1r hp5r hr2 hbl2 hge5 hp1
        (with_reducible refine (pieces_same w4.heap.size w.heap.size _ _ _ w12 hpA hpB hpby hpl).mono ?_)
        rintro e w13 ⟨rfl, hb13⟩
        have hB13 := hB12.trans (hb13.mono hB12.size)
        have hR13 := hR12.later hb13
        have hE13 := empty_row w13 5 1
        have hsa13 := hsa.later (hB13.alloc hB13.size (.cells #[] 5))
        clear hpA hpB hpby hpl hR12 hb13 hB12 hb612
        go_wp2_with (first | (at_builtin; refine wpList_append_scr_want (by rfl) _ _ 22 rfl w13.heap.size i5 Try.underlying22 h5i.out h5z h5s h5b _ 0 [] rfl hE13 _ za rfl hsa13 (by omega) (by simp) ?_; intro v14 w14 hown14 hgrow14 hsome14; rw [Nat.zero_add] at hown14 hsome14; rw [List.nil_append] at hown14; obtain ⟨g14, c14, rfl⟩ := hsome14.resolve_left (fun e => by cases e); have hb1314 : Below w13.heap.size w13 w14 := ((Below.refl _ _).alloc (Nat.le_refl _) _).grown hgrow14 (by simp) (fun j e => by cases e; exact Nat.le_refl _); have hsb14 := hsb.later (hB13.trans (hb1314.mono hB13.size))) | (at_builtin; refine wpList_append_scr_want (by rfl) _ _ 22 rfl w13.heap.size i5 Try.underlying22 h5i.out h5z h5s h5b _ _ _ rfl hown14 _ zb rfl hsb14 (by omega) hb1314.size ?_; intro v15 w15 hown15 hgrow15 hsome15; obtain ⟨g15, c15, rfl⟩ := hsome15.resolve_left (fun e => by cases e); have hb1315 : Below w13.heap.size w13 w15 := hb1314.grown hgrow15 hb1314.size (fun j e => (hown14.lt j e).1)))
        have hown15' : w15.ownsRow w13.heap.size 5 1 (.slice (some ⟨g15, 0, none⟩) (za ++ zb).length c15) (za ++ zb).length (cellsU (za ++ zb)) := by
          rw [cellsU_app, List.length_append]
          exact hown15
        have hscr15 := scr_of_own hown15' hbyt
        rw [show za.length + zb.length = (za ++ zb).length from List.length_append.symm]
        have hB15 := hB13.trans (hb1315.mono hB13.size)
        have hR15 := hR13.later hb1315
        clear hown14 hgrow14 hsome14 hown15 hgrow15 hsome15 hb1314 hsb14 hE13 hsa13 hR13 hB13 hb1315
        (with_reducible refine (recs_any _ (za ++ zb) w15 hscr15 (by rw [List.length_append]; omega)).mono ?_)
        rintro e w16 ⟨V16, rfl, hr16, hb16⟩
        have hB16 := hB15.trans (hb16.mono hB15.size)
        have hR16 := hR15.later hb16
        obtain ⟨A16, C16, hV16⟩ := rcs_shape2 hr16
        subst hV16
        clear hscr15 hown15' hR15 hb16
        go_wp2_with fail
        (with_reducible refine (recs_same _ _ _ _ _ w16 hr16 hR16 hself (by rw [hra.out, List.length_append]; omega)).mono ?_)
        rintro e w17 ⟨rfl, hb17⟩
        have hB17 := hB16.trans (hb17.mono hB16.size)
        clear hr16 hR16 hb17
        go_wp2_with fail
        (with_reducible refine (hWK.out _).mono ?_)
        rintro e w18 ⟨rfl, hb18⟩
        go_wp2
        go_ret
        exact ⟨rfl, hB17.trans (hb18.mono hB17.size)⟩
  · rcases pcs_shape hp1 with ⟨_, rfl⟩ | ⟨g1, C1, rfl⟩
    · exact absurd rfl h0
    obtain ⟨p, s, hx, _, _, k2, _⟩ := pcs_cell hp1 (i := L1.length - 1) (by omega)
    have hn1 : decide ((0 : Int) < L1.length) = true := by simp; omega
    have hpc : p = pcOf za (placeOf za (L1.length - 1)) := by
      have e1 : (L1.map (·.1))[L1.length - 1]? = some p := by simp [hx]
      rw [hL1] at e1
      have e2 : (pcsOf za)[L1.length - 1]? = some (pcOf za (placeOf za (L1.length - 1))) := by simp [pcsOf, pcsTo, show L1.length - 1 < cnt za by omega]
      exact Option.some.inj (e1.symm.trans e2)
    obtain ⟨n, hn⟩ : ∃ n, L1.length = n + 1 := ⟨L1.length - 1, by omega⟩
    have hnb : n ≤ 1000 := by have := cnt_le za; omega
    rw [hn] at k2 hn1 hpc hp1 hbl1 ⊢
    rw [Nat.add_sub_cancel] at k2 hpc
    cases hcu : p.cut
    · have hnc : noCut za := noCut_of za (fun k hk => by
        have : k = n := by omega
        rw [this]
        rw [hpc] at hcu
        exact hcu)
      rw [hcu] at k2
      have H0 := Lib.hid hn
      have HLc := Lib.hid hLc
      clear hn hLc h0
      go_wp2_with fail
      (with_reducible refine (all_any _ zb w1 (hsb.later hb1) (by omega)).mono ?_)
      rintro e w2 ⟨V2, rfl, ⟨L2, hL2, hp2⟩, hb2⟩
      have hB2 := hb1.trans (hb2.mono hb1.size)
      have hl2b : L2.length ≤ 1000 := by
        have h1 := congrArg List.length hL2
        rw [List.length_map, pcsOf, pcsTo_len] at h1
        have := cnt_le zb
        omega
      have hp12 := hp1.later hb2
      have hbl2 : ∀ r, V2.ownBlock = some r → r < w2.heap.size := fun r e => (hp2.1.lt r e).2
      obtain ⟨A2, C2, hV2⟩ := pcsL_shape hp2
      have hsa2 := hsa.later (hB2.alloc hB2.size (.cells #[] 5))
      have hE := empty_row w2 5 1
      subst hV2
      go_wp2_with (first | (at_builtin; refine wpList_append_scr rfl _ _ 22 rfl w2.heap.size i5 Try.underlying22 h5i.out h5z h5s h5b _ 0 [] rfl hE _ za rfl hsa2 (by omega) (by simp) ?_; intro v3 w3 hown3 hgrow3 hsome3; rw [Nat.zero_add] at hown3 hsome3; rw [List.nil_append] at hown3; obtain ⟨g3, c3, rfl⟩ := hsome3.resolve_left (fun e => by cases e); have hb23 : Below w2.heap.size w2 w3 := ((Below.refl _ _).alloc (Nat.le_refl _) _).grown hgrow3 (by simp) (fun j e => by cases e; exact Nat.le_refl _); have hsb3 := hsb.later (hB2.trans (hb23.mono hB2.size))) | (at_builtin; refine wpList_append_scr rfl _ _ 22 rfl w2.heap.size i5 Try.underlying22 h5i.out h5z h5s h5b _ _ _ rfl hown3 _ zb rfl hsb3 (by omega) hb23.size ?_; intro v4 w4 hown4 hgrow4 hsome4; obtain ⟨g4, c4, rfl⟩ := hsome4.resolve_left (fun e => by cases e); have hb24 : Below w2.heap.size w2 w4 := hb23.grown hgrow4 hb23.size (fun j e => (hown3.lt j e).1)))
      clear hsb3 hsa2 hown3 hgrow3 hgrow4 hE hb23 hsome3 hsome4
      have hown4' : w4.ownsRow w2.heap.size 5 1 (.slice (some ⟨g4, 0, none⟩) (za ++ zb).length c4) (za ++ zb).length (cellsU (za ++ zb)) := by
        rw [cellsU_app, List.length_append]
        exact hown4
      have hB4 := hB2.trans (hb24.mono hB2.size)
      have hscr4 := scr_of_own hown4' hbyt
      have hlab : za.length + zb.length = (za ++ zb).length := by rw [List.length_append]
      rw [hlab]
      (with_reducible refine (all_any _ (za ++ zb) w4 hscr4 (by rw [List.length_append]; omega)).mono ?_)
      rintro e w5 ⟨V5, rfl, ⟨L5, hL5, hp5⟩, hb5⟩
      rw [pcs_append za zb hnc] at hL5
      have hl5 : L5.length = n + 1 + L2.length := by
        have h0 := H0.out
        have := congrArg List.length hL5
        rw [List.length_map, List.length_append, List.length_map, ← hL1, ← hL2, List.length_map, List.length_map] at this
        omega
      have hB5 := hB4.trans (hb5.mono hB4.size)
      have hp15 : PcsL w.heap.size _ L1 w5 := (hp12.later hb24).later hb5
      have hp25 := (hp2.later hb24).later hb5
      have hge5 : ∀ r, V5.ownBlock = some r → w4.heap.size ≤ r := fun r e => (hp5.1.lt r e).1
      obtain ⟨A5, C5, hV5⟩ := pcsL_shape hp5
      rw [hl5] at hV5
      subst hV5
      have hb54 := hb5.size
      have hb42 := hb24.size
      clear hown4 hown4' hscr4 hb24 hb5 hp12 hp2 hlab hB2 hb2
      go_wp2_with fail
      go_loopw [8] (fun t wr => ∃ k : Nat, t = .int .i64 k ∧ PartsIn w w1 w4 za.length (.slice (some ⟨g1, 0, none⟩) (n + 1) C1) (.slice A2 L2.length C2) (.slice A5 (n + 1 + L2.length) C5) L1 L2 L5 k wr) (fun t _ => L2.length - (intOf t).toNat)
      case atStart => exact ⟨0, rfl, Nat.zero_le _, by rw [shTo_zero]; exact hp25.1, hp25.2, hp15, hp5, hB5, hb54⟩
      case round =>
        clear hp25 hp15 hp5 hB5
        obtain ⟨k, rfl, hk, hr2, hs2, hp1r, hp5r, hB, hsz⟩ := hrel
        by_cases hlt : k < L2.length
        · obtain ⟨g2, rfl⟩ : ∃ g2, A2 = some ⟨g2, 0, none⟩ := by
            rcases hr2.2 with ⟨e, _⟩ | ⟨g2, cc, cur, e, _⟩
            · injection e with e1 e2 e3; omega
            · injection e with e1 e2 e3; exact ⟨_, e1⟩
          obtain ⟨x, hx⟩ : ∃ x, L2[k]? = some x := ⟨_, List.getElem?_eq_getElem hlt⟩
          have hc := hr2.cellAt (k * 3) (by omega)
          rw [(pcCells_at (shTo_at za.length k L2 hx)).1] at hc
          have hfz := hr2.frozenAt (k * 3)
          have hst := hr2.stored (k * 3) (.int .i64 ((x.1.at_ + za.length : Nat) : Int))
          rw [shTo_set za.length k L2 hx] at hst
          have hxb : x.1.at_ ≤ 1000 := by
            have hm : x.1 ∈ pcsOf zb := by rw [← hL2]; exact List.mem_map.2 ⟨x, List.mem_of_getElem? hx, rfl⟩
            obtain ⟨j, hj, hj2⟩ := List.mem_map.1 hm
            have hj : j < cnt zb := by simpa using hj
            rw [← hj2]
            show placeOf zb j ≤ 1000
            have := place_lt zb hj
            omega
          have hki : (k : Int) < L2.length := by omega
          have hg1 := (hr2.lt g2 rfl).1
          have hg2 := hbl2 g2 rfl
          have hobj : ∃ cs fz, wr.heap[g2]? = some (.cells cs 28 fz) := by
            rcases hr2.2 with ⟨e, _⟩ | ⟨g', cc, cur, e, _, hh, _⟩
            · injection e with e1 e2 e3; cases e1
            · injection e with e1 e2 e3
              cases e1
              exact ⟨_, _, hh⟩
          go_wp2_with fail
          have hcast : ((x.1.at_ : Int) + (za.length : Int)) = ((x.1.at_ + za.length : Nat) : Int) := by omega
          rw [hcast]
          refine ⟨⟨k + 1, by go_num, by omega, hst.1, ?_, ?_, ?_, hB.setCell (by have := hb1.size; simp; omega) _, by simpa [World.setCell] using hsz⟩, by simp [intOf] <;> omega⟩
          · obtain ⟨cs, fz, hcs⟩ := hobj
            exact hs2.kept hst.2 (fun r e => by cases e; exact ⟨_, hcs, by rintro cs' fz' ⟨⟩⟩)
          · exact two_kept (W0 := wr) hp1r (fun e => by have := hbl1 _ e; omega) rfl hobj rfl
          · exact two_kept (W0 := wr) hp5r (fun e => by have := hge5 _ e; omega) rfl hobj rfl
        · obtain rfl : k = L2.length := by omega
          obtain ⟨i42, h42, h42z, h42s, h42b⟩ := info_parts Try.info42
          have h42 := Lib.hid h42
          obtain ⟨i28, h28, h28z, h28s, h28b⟩ := info_parts Try.info28
          have h28 := Lib.hid h28
          have hmap := shTo_map za.length L2
          rw [hL2] at hmap
          have hrows2 : PcRows w1.heap.size (shTo za.length L2.length L2) wr := shTo_rows hs2
          have hself := recs_self (za ++ zb) hbyt
          have hra := Lib.hid (recs_append za zb hnc)
          have hla1 : (recsOf za).length ≤ 1000 := by have := recsTo_len za (cnt za); have := cnt_le za; show (recsTo za (cnt za)).length ≤ 1000; omega
          have hlb1 : (recsOf zb).length ≤ 1000 := by have := recsTo_len zb (cnt zb); have := cnt_le zb; show (recsTo zb (cnt zb)).length ≤ 1000; omega
          have hE6 := empty_row wr 42 8
          have hsa6 := hsa.later (hB.alloc hB.size (.cells #[] 42))
          have hWK := Lib.hid wakes_any
          have hl1k : L1.length ≤ 1000 := by have := cnt_le za; have := HLc.out; omega
          clear hs2 hlt hk hd1 hd2
          go_wp2_with fail
          (with_reducible refine (recs_any _ za _ hsa6 (by omega)).mono ?_)
          rintro e w7 ⟨V7, rfl, hr7, hb7⟩
          have hb67 : Below wr.heap.size wr w7 := ((Below.refl _ _).alloc (Nat.le_refl _) _).trans (hb7.mono (by simp))
          have hE7 := row_later hE6 hb7
          obtain ⟨A7, C7, hV7⟩ := rcs_shape2 hr7
          subst hV7
          clear hE6 hsa6 hb7
          go_wp2_with (at_builtin; refine wpList_append_row rfl _ _ 34 rfl wr.heap.size 42 i42 (RV 0 0 0 0 0 0 0 0 0) 8 72 Try.underlying34 h42.out h42z h42s h42b rfl (by decide) _ 0 [] rfl hE7 _ _ _ (rcCells (recsOf za)) rfl hr7 (rc_ones _) (by unfold maxLen; omega) (by omega) hb67.size ?_; intro v8 w8 hown8 hgrow8 hsome8; rw [Nat.zero_add] at hown8 hsome8; rw [List.nil_append] at hown8; obtain ⟨g8, c8, rfl⟩ := hsome8.resolve_left (fun e => by cases e); have hb68 := hb67.grown hgrow8 hb67.size (fun j e => by cases e; exact Nat.le_refl _); have hsb8 := hsb.later (hB.trans (hb68.mono hB.size)))
          clear hE7 hr7 hgrow8 hsome8 hb67
          (with_reducible refine (recs_any _ zb _ hsb8 (by omega)).mono ?_)
          rintro e w9 ⟨V9, rfl, hr9, hb9⟩
          have hb69 := hb68.trans (hb9.mono hb68.size)
          have hown9 := row_later hown8 hb9
          obtain ⟨A9, C9, hV9⟩ := rcs_shape2 hr9
          subst hV9
          clear hown8 hsb8 hb68 hb9
          go_wp2_with (first
            | (at_builtin; refine wpList_append_row rfl _ _ 34 rfl wr.heap.size 42 i42 (RV 0 0 0 0 0 0 0 0 0) 8 72 Try.underlying34 h42.out h42z h42s h42b rfl (by decide) _ _ _ rfl hown9 _ _ _ (rcCells (recsOf zb)) rfl hr9 (rc_ones _) (by unfold maxLen; omega) (by omega) hb69.size ?_; intro v10 w10 hown10 hgrow10 hsome10; obtain ⟨g10, c10, rfl⟩ := hsome10.resolve_left (fun e => by cases e); have hb610 := hb69.grown hgrow10 hb69.size (fun j e => (hown9.lt j e).1); have hE10 := empty_row w10 28 3; have hp1t := PcsL.later hp1r (hb610.alloc hb610.size (.cells #[] 28)))
            | (at_builtin; refine wpList_append_row rfl _ _ 24 rfl w10.heap.size 28 i28 (.agg #[.int .i64 0, .slice none 0 0, .bool false]) 3 40 Try.underlying24 h28.out h28z h28s h28b rfl (by decide) _ 0 [] rfl hE10 _ _ _ (pcCells L1) rfl hp1t.1 (pc_ones L1 hp1t.2) (by unfold maxLen; omega) (by omega) (by simp) ?_; intro v11 w11 hown11 hgrow11 hsome11; rw [Nat.zero_add] at hown11 hsome11; rw [List.nil_append] at hown11; obtain ⟨g11, c11, rfl⟩ := hsome11.resolve_left (fun e => by cases e); have hb1011 : Below w10.heap.size w10 w11 := ((Below.refl _ _).alloc (Nat.le_refl _) _).grown hgrow11 (by simp) (fun j e => by cases e; exact Nat.le_refl _); have hb611 := hb610.trans (hb1011.mono hb610.size); have hr2t := row_later hr2 hb611; have hrw2t := hrows2.later hb611)
            | (at_builtin; refine wpList_append_row rfl _ _ 24 rfl w10.heap.size 28 i28 (.agg #[.int .i64 0, .slice none 0 0, .bool false]) 3 40 Try.underlying24 h28.out h28z h28s h28b rfl (by decide) _ _ _ rfl hown11 _ _ _ (pcCells (shTo za.length L2.length L2)) rfl hr2t (pc_ones _ hrw2t) (by unfold maxLen; omega) (by omega) hb1011.size ?_; intro v12 w12 hown12 hgrow12 hsome12; obtain ⟨g12, c12, rfl⟩ := hsome12.resolve_left (fun e => by cases e); have hb1012 : Below w10.heap.size w10 w12 := hb1011.grown hgrow12 hb1011.size (fun j e => (hown11.lt j e).1)))
          have hb612 := hb610.trans (hb1012.mono hb610.size)
          have hB12 := hB.trans (hb612.mono hB.size)
          have hpA : PcsAt w4.heap.size (.slice A5 (n + 1 + L2.length) C5) (pcsOf za ++ (pcsOf zb).map (Pc.up za.length)) w12 := ⟨L5, hL5, PcsL.later hp5r hb612⟩
          have hpB : PcsAt w.heap.size (.slice (some ⟨g12, 0, none⟩) (L1.length + L2.length) c12) (pcsOf za ++ (pcsOf zb).map (Pc.up za.length)) w12 := by
            refine ⟨L1 ++ shTo za.length L2.length L2, by rw [List.map_append, hL1, hmap], ?_, ?_⟩
            · rw [List.length_append, shTo_len _ _ _ (Nat.le_refl _), pcCells_app]
              exact row_base hown12 (by have := hb610.size; have := hB.size; omega)
            · intro x hx
              rcases List.mem_append.1 hx with hx | hx
              · exact (PcsL.later hp1r hb612).2 x hx
              · exact row_base ((hrows2.later hb612) x hx) hb1.size
          have hpby : PcBytes (pcsOf za ++ (pcsOf zb).map (Pc.up za.length)) := by
            rw [← pcs_append za zb hnc]
            exact pcs_bytes _ hbyt
          have hpl : (pcsOf za ++ (pcsOf zb).map (Pc.up za.length)).length ≤ 4000 := by
            have e1 : (pcsOf za).length = cnt za := pcsTo_len za _
            have e2 : (pcsOf zb).length = cnt zb := pcsTo_len zb _
            have := cnt_le za
            have := cnt_le zb
            rw [List.length_append, List.length_map]
            omega
          have hR10 : RcsAt wr.heap.size (.slice (some ⟨g10, 0, none⟩) ((recsOf za).length + (recsOf zb).length) c10) (recsOf (za ++ zb)) w10 := by
            unfold RcsAt
            rw [hra.out, List.length_append, rcCells_app]
            exact hown10
          have hR12 := hR10.later hb1012
          clear hown12 hgrow12 hsome12 hown11 hgrow11 hsome11 hown10 hgrow10 hsome10 hb1011 hb611 hr2t hrw2t hE10 hp1t hb1012 hb610 hR10 hown9 hr9 hb69 hrows2 hp1r hp5r hr2 hbl2 hge5 hp1
          (with_reducible refine (pieces_same w4.heap.size w.heap.size _ _ _ w12 hpA hpB hpby hpl).mono ?_)
          rintro e w13 ⟨rfl, hb13⟩
          have hB13 := hB12.trans (hb13.mono hB12.size)
          have hR13 := hR12.later hb13
          have hE13 := empty_row w13 5 1
          have hsa13 := hsa.later (hB13.alloc hB13.size (.cells #[] 5))
          clear hpA hpB hpby hpl hR12 hb13 hB12 hb612
          go_wp2_with (first | (at_builtin; refine wpList_append_scr_want (by rfl) _ _ 22 rfl w13.heap.size i5 Try.underlying22 h5i.out h5z h5s h5b _ 0 [] rfl hE13 _ za rfl hsa13 (by omega) (by simp) ?_; intro v14 w14 hown14 hgrow14 hsome14; rw [Nat.zero_add] at hown14 hsome14; rw [List.nil_append] at hown14; obtain ⟨g14, c14, rfl⟩ := hsome14.resolve_left (fun e => by cases e); have hb1314 : Below w13.heap.size w13 w14 := ((Below.refl _ _).alloc (Nat.le_refl _) _).grown hgrow14 (by simp) (fun j e => by cases e; exact Nat.le_refl _); have hsb14 := hsb.later (hB13.trans (hb1314.mono hB13.size))) | (at_builtin; refine wpList_append_scr_want (by rfl) _ _ 22 rfl w13.heap.size i5 Try.underlying22 h5i.out h5z h5s h5b _ _ _ rfl hown14 _ zb rfl hsb14 (by omega) hb1314.size ?_; intro v15 w15 hown15 hgrow15 hsome15; obtain ⟨g15, c15, rfl⟩ := hsome15.resolve_left (fun e => by cases e); have hb1315 : Below w13.heap.size w13 w15 := hb1314.grown hgrow15 hb1314.size (fun j e => (hown14.lt j e).1)))
          have hown15' : w15.ownsRow w13.heap.size 5 1 (.slice (some ⟨g15, 0, none⟩) (za ++ zb).length c15) (za ++ zb).length (cellsU (za ++ zb)) := by
            rw [cellsU_app, List.length_append]
            exact hown15
          have hscr15 := scr_of_own hown15' hbyt
          rw [show za.length + zb.length = (za ++ zb).length from List.length_append.symm]
          have hB15 := hB13.trans (hb1315.mono hB13.size)
          have hR15 := hR13.later hb1315
          clear hown14 hgrow14 hsome14 hown15 hgrow15 hsome15 hb1314 hsb14 hE13 hsa13 hR13 hB13 hb1315
          (with_reducible refine (recs_any _ (za ++ zb) w15 hscr15 (by rw [List.length_append]; omega)).mono ?_)
          rintro e w16 ⟨V16, rfl, hr16, hb16⟩
          have hB16 := hB15.trans (hb16.mono hB15.size)
          have hR16 := hR15.later hb16
          obtain ⟨A16, C16, hV16⟩ := rcs_shape2 hr16
          subst hV16
          clear hscr15 hown15' hR15 hb16
          go_wp2_with fail
          (with_reducible refine (recs_same _ _ _ _ _ w16 hr16 hR16 hself (by rw [hra.out, List.length_append]; omega)).mono ?_)
          rintro e w17 ⟨rfl, hb17⟩
          have hB17 := hB16.trans (hb17.mono hB16.size)
          clear hr16 hR16 hb17
          go_wp2_with fail
          (with_reducible refine (hWK.out _).mono ?_)
          rintro e w18 ⟨rfl, hb18⟩
          go_wp2
          go_ret
          exact ⟨rfl, hB17.trans (hb18.mono hB17.size)⟩
    · rw [hcu] at k2
      go_wp2_with fail
      (with_reducible refine (wakes_any _).mono ?_)
      rintro e w2 ⟨rfl, hb2⟩
      go_wp2
      go_ret
      exact ⟨rfl, hb1.trans (hb2.mono hb1.size)⟩
theorem own : ownKnob Try.prog.godebug = none := ownNone
theorem laidOut : laidOutB Try.prog = true := laidOutYes
theorem walk (a : Option Addr) (len cap : Nat) (zs : List Int) (b : Option Addr) (len2 cap2 : Nat) (ys : List Int) (w : World) (hrow : IsRow .u8 w a len cap zs) (hrow2 : IsRow .u8 w b len2 cap2 ys) :
    Calls Try.prog 4 #[.slice a len cap, .slice b len2 cap2] w fun e w' => e = .returned (.bool true) ∧ Below w.heap.size w w' := by
  obtain ⟨hm, hs, hl⟩ := scr_of_isrow hrow
  obtain ⟨hm2, hs2, hl2⟩ := scr_of_isrow hrow2
  by_cases h : 1000 < len ∨ 1000 < len2
  · exact parts_long a b len len2 cap cap2 w h hm hm2
  · exact parts_main _ _ (zs.take len) (ys.take len2) w hs hs2 (by omega) (by omega)
set_option maxRecDepth 100000 in
theorem lifted (os : Os) (started : os.Started) (H : Type) (enc : TypeId × Value → H) :
    ReturnsInHanded {} Try.checked os 4 .any (Rows.splitPartsSpec.pre6 enc Try.prog Try.f4 Rows.splitPartsRow.domain false) (Rows.splitPartsSpec.post enc Try.prog Try.f4 false true false false) := by
  refine returnsInHanded_of_change (C := Try.checked) own started (by kernel_rfl) Try.func4
    (ChangeSpec.witness6 (enc := enc) (C := Try.checked) false ⟨#[], #[.slice none 0 0, .slice none 0 0], []⟩ 8 (by kernel_rfl) (by kernel_rfl) (by kernel_rfl) (by kernel_rfl)) ?_
  intro W base args ds gs before hval0 hW hcnd _
  have hval : ∀ (j : Nat) t v, Try.f4.params[j]? = some t → args[j]? = some v → Value.okWide Try.prog W .any base t v := hval0
  have hW' := hW
  obtain ⟨p, q, hA0, hV, rfl, hfz, hnd⟩ := hW
  have hA : DataW.TrodAll enc Try.prog W 0 (fun _ => true) true Try.f4.params.toList args.toList ds p := hA0
  rw [Try.params4] at hA hval
  obtain ⟨v0, vs0, d0, ds0, p0, q0, hargs, rfl, rfl, h0, r0⟩ := trodAll_cons hA
  obtain ⟨v1, vs1, d1, ds1, p1, q1, rfl, rfl, rfl, h1, r1⟩ := trodAll_cons r0
  obtain ⟨rfl, rfl, rfl⟩ := trodAll_nil r1
  obtain rfl : args = #[v0, v1] := by cases args; simp_all
  obtain ⟨rfl, rfl⟩ := trodVars_none hV
  obtain ⟨a0, len0, cap0, rfl⟩ := okWide_slice Try.underlying22 (hval 0 22 v0 rfl rfl)
  have k0 := h0
  have lt0 : ∀ x ∈ p0, x.block < W.heap.size := by obtain ⟨m, hm⟩ := k0; exact DataW.trod_lt m _ _ _ hm
  obtain ⟨z0, w0⟩ : ∃ zs, IsRow .u8 W a0 len0 cap0 zs := by
    obtain ⟨fuel, hf⟩ := h0
    rcases open_ints Try.underlying22 Try.underlying5 (by kernel_rfl) hf with ⟨hcs, _⟩ | ⟨x, l, c, zs, hcs, _, hl, hm, hz, _, hcell, hwz⟩
    · simp [Value.cells] at hcs
      obtain ⟨rfl, rfl, rfl⟩ := hcs
      exact ⟨[], .inl ⟨rfl, rfl, rfl, rfl⟩⟩
    · simp [Value.cells] at hcs
      obtain ⟨rfl, rfl, rfl⟩ := hcs
      exact ⟨zs, .inr ⟨_, rfl, hl, hm, by simpa using hz, hcell, hwz⟩⟩
  obtain ⟨a1, len1, cap1, rfl⟩ := okWide_slice Try.underlying22 (hval 1 22 v1 rfl rfl)
  have k1 := h1
  have lt1 : ∀ x ∈ p1, x.block < W.heap.size := by obtain ⟨m, hm⟩ := k1; exact DataW.trod_lt m _ _ _ hm
  obtain ⟨z1, w1⟩ : ∃ zs, IsRow .u8 W a1 len1 cap1 zs := by
    obtain ⟨fuel, hf⟩ := h1
    rcases open_ints Try.underlying22 Try.underlying5 (by kernel_rfl) hf with ⟨hcs, _⟩ | ⟨x, l, c, zs, hcs, _, hl, hm, hz, _, hcell, hwz⟩
    · simp [Value.cells] at hcs
      obtain ⟨rfl, rfl, rfl⟩ := hcs
      exact ⟨[], .inl ⟨rfl, rfl, rfl, rfl⟩⟩
    · simp [Value.cells] at hcs
      obtain ⟨rfl, rfl, rfl⟩ := hcs
      exact ⟨zs, .inr ⟨_, rfl, hl, hm, by simpa using hz, hcell, hwz⟩⟩
  clear hA0 hval0
  refine (walk a0 len0 cap0 z0 a1 len1 cap1 z1 W w0 w1).mono fun e W' ⟨he, bel⟩ => ?_
  subst he
  exact ⟨_, rfl, _, _, _, [], _, [], hW', trodAll_mk1 (shut_bool Try.underlying4 _), (trodAll_cons_mk (Below.trod laidOut (by kernel_rfl) (of_decide_eq_true (by kernel_rfl)) k0 bel lt0) (trodAll_cons_mk (Below.trod laidOut (by kernel_rfl) (of_decide_eq_true (by kernel_rfl)) k1 bel lt1) trodAll_mk0)), rfl, bel.frame _, fun h => by cases h⟩

theorem over : Rows.splitPartsRow.holds Try.pinned (OpenSpec.ofChange Rows.splitPartsSpec) :=
  OpenClaim.holds_of_wide 4 Try.f4 rfl rfl rfl rfl rfl rfl rfl ⟨rfl, rfl, rfl, rfl, rfl⟩ rfl rfl rfl rfl rfl (by kernel_rfl) Try.func4 (by kernel_rfl)
    (of_decide_eq_true (by kernel_rfl)) (by unfold Func.isWrapper; first | (rw [if_pos (by decide +kernel)]; kernel_rfl) | (rw [if_neg (by decide +kernel)]; exact ⟨rfl, rfl⟩))
    (fun os started H enc _ => lifted os started H enc)

theorem proved : Rows.SplitPartsSaid := over
#print axioms proved
end Go.Proofs.Ytepbjjddpfejnaa.splitParts
