/-
  SplitWhole: the law's Go function returns true at every script, and the script reads as before; no condition.
-/
import Derived.Test.YtepbjjddpfejnaaAD
namespace Go.Proofs.Ytepbjjddpfejnaa
open Go.ChangeShapes Go.WideShapes Go.ChangeAt Go.RowKit
set_option linter.unusedVariables false
set_option linter.unusedSimpArgs false
theorem cut_last (zs : List Int) {k : Nat} (h : k < cnt zs) (hc : cutAt zs (placeOf zs k) = true) : k + 1 = cnt zs := by
  have hp := place_lt zs h
  have hn := place_succ zs k
  rcases Nat.lt_or_ge (k + 1) (cnt zs) with h1 | h1
  · have hp1 := place_lt zs h1
    rw [hn] at hp1
    unfold cutAt at hc
    unfold nextAt at hp1
    have := of_decide_eq_true hc
    unfold hasAt at this hp1
    omega
  · omega
theorem has_long (zs : List Int) (k : Nat) (hz : 0 ≤ longAt zs k) (hc : cutAt zs k = false) : longAt zs k = hasAt zs k := by
  unfold cutAt at hc
  have := of_decide_eq_false hc
  unfold hasAt at this ⊢
  omega
theorem take_piece (zs : List Int) (k : Nat) (hk : k < zs.length) (hz : 0 ≤ longAt zs k) (hc : cutAt zs k = false) : zs.take (nextAt zs k) = zs.take k ++ [((pcOf zs k).bytes.length : Int)] ++ (pcOf zs k).bytes := by
  rw [pc_len zs k hk, ← has_long zs k hz hc]
  have hle := hasAt_le zs k hk
  unfold nextAt
  rw [Nat.add_assoc, List.take_add, List.append_assoc]
  congr 1
  rw [Nat.add_comm 1, List.drop_eq_getElem_cons hk, List.take_succ_cons]
  unfold longAt
  simp [pcOf, ck, hk]
theorem cnt_pos (zs : List Int) (h : 0 < zs.length) : 0 < cnt zs := by
  rcases Nat.eq_zero_or_pos (cnt zs) with e | e
  · have := place_end zs
    rw [e] at this
    have h0 : placeOf zs 0 = 0 := rfl
    omega
  · exact e
/-- The bytes from k + 1 on, as the law cuts them out of the script. -/
theorem long_bd {zs : List Int} {blk off : Nat} {w : World} (h : BytesAt blk off zs w) {k : Nat} (hk : k < zs.length) : 0 ≤ longAt zs k ∧ longAt zs k < 256 := by
  have := h.2.2 (zs[k]?.getD 0) (by simp [hk])
  exact this
theorem joinL_snoc (LL : LP) (x : Value × List Int) : joinL (LL ++ [x]) = joinL LL ++ [(x.2.length : Int)] ++ x.2 := by
  unfold joinL joinTo
  rw [List.take_of_length_le (by simp), List.take_of_length_le (by simp), List.flatMap_append]
  simp
/-- Between two rounds of the law. -/
def WholeIn (w : World) (v : Value) (L : List (Pc × Value)) (zs : List Int) (i : Nat) (u : Value) (wr : World) : Prop :=
  ∃ (LL : LP) (q : Nat), i ≤ cnt zs ∧ q ≤ zs.length ∧ joinL LL = zs.take q ∧ (i < cnt zs → q = placeOf zs i) ∧ LL.length ≤ i ∧ allFit LL ∧ (∀ x ∈ LL, ∃ y ∈ L, x = (y.2, y.1.bytes)) ∧
    wr.ownsRow w.heap.size 22 1 u LL.length (LL.map (·.1)) ∧ PcsL w.heap.size v L wr ∧ Below w.heap.size w wr
set_option maxRecDepth 100000 in
set_option maxHeartbeats 4000000 in
theorem whole_some (blk off cap : Nat) (zs : List Int) (w : World) (hcap : zs.length ≤ cap) (hlen : zs.length ≤ 2000) (h0 : 0 < zs.length) (h : BytesAt blk off zs w) :
    Calls Try.prog 3 #[.slice (some ⟨blk, off, none⟩) zs.length cap] w fun e w' => e = .returned (.bool true) ∧ Below w.heap.size w w' := by
  have hl2 : ¬ (2000 : Int) < zs.length := by omega
  obtain ⟨i0, hi, hz0, hz1, hz2⟩ := info_parts Try.info22
  have hi := Lib.hid hi
  go_enter Try.func3, Try.ntmps3
  go_wp2_with fail
  (with_reducible refine (all_some blk off cap zs w hcap hlen h).mono ?_)
  rintro e w1 ⟨v, rfl, ⟨L, hL, hp⟩, hb1⟩
  have hLc : L.length = cnt zs := by have := congrArg List.length hL; rwa [List.length_map, pcsOf, pcsTo_len] at this
  have hcp := cnt_pos zs h0
  obtain ⟨g, c, rfl⟩ : ∃ g c, v = .slice (some ⟨g, 0, none⟩) (cnt zs) c := by
    rcases pcs_shape hp with ⟨_, rfl⟩ | ⟨g, c, rfl⟩
    · rw [List.length_nil] at hLc; omega
    · exact ⟨g, c, by rw [hLc]⟩
  go_wp2_with fail
  go_loopw [4, 5, 6] (fun t u i wr => ∃ k : Nat, i = .int .i64 k ∧ t = .int .i64 (placeOf zs k) ∧ WholeIn w (.slice (some ⟨g, 0, none⟩) (cnt zs) c) L zs k u wr) (fun t u i _ => cnt zs - (intOf i).toNat)
  case atStart => exact ⟨0, rfl, rfl, [], 0, by omega, by omega, by simp [joinL, joinTo], fun _ => rfl, by simp, fun x hx => (by cases hx), fun x hx => (by cases hx), World.ownsRow_nil _ _ _ _, hp, hb1⟩
  case round =>
    obtain ⟨k, rfl, rfl, LL, q, hk, hq, hj, hqk, hLLk, hfit, hmem, hrow, hpcs, hb⟩ := hrel
    by_cases hlt : k < cnt zs
    · have hkz := place_lt zs hlt
      have hle := hasAt_le zs _ hkz
      have hLB := h.later hb
      have hbd := long_bd hLB hkz
      obtain ⟨p, s, hx, k0, k1, k2, hs⟩ := pcs_cell hpcs (i := k) (by omega)
      obtain rfl : p = pcOf zs (placeOf zs k) := by
        have e1 : (L.map (·.1))[k]? = some p := by simp [hx]
        rw [hL] at e1
        have e2 : (pcsOf zs)[k]? = some (pcOf zs (placeOf zs k)) := by simp [pcsOf, pcsTo, hlt]
        exact Option.some.inj (e1.symm.trans e2)
      have hpb : ∀ z ∈ (pcOf zs (placeOf zs k)).bytes, isByte z := fun z hz => h.2.2 z (List.mem_of_mem_drop (List.mem_of_mem_take hz))
      have hsc := scr_of_own hs hpb
      have hscr := piece_scr hLB hcap hkz
      have hTK := Lib.hid (take_piece zs (placeOf zs k) hkz hbd.1)
      have hCL := Lib.hid (cut_last zs hlt)
      have hHL : Hid (cutAt zs (placeOf zs k) = false → zs[placeOf zs k]?.getD 0 = hasAt zs (placeOf zs k)) := has_long zs (placeOf zs k) hbd.1
      have hPS : Hid (placeOf zs (k + 1) = placeOf zs k + 1 + hasAt zs (placeOf zs k)) := rfl
      have hPN : Hid (placeOf zs (k + 1) = nextAt zs (placeOf zs k)) := rfl
      have hzc := hLB.2.1 _ hkz
      have hlast : cutAt zs (placeOf zs k) = decide ((hasAt zs (placeOf zs k) : Int) < zs[placeOf zs k]?.getD 0) := rfl
      have hzb : 0 ≤ zs[placeOf zs k]?.getD 0 ∧ zs[placeOf zs k]?.getD 0 < 256 := hbd
      have hlen2 := pc_len zs _ hkz
      have hqk' := Lib.hid (hqk hlt)
      obtain ⟨a1, n1, rfl⟩ := hsc.shape
      rw [hlen2] at *
      have hLN : Hid ((pcOf zs (placeOf zs k)).bytes.length = hasAt zs (placeOf zs k)) := pc_len zs _ hkz
      have hsame : ∀ m (o : Obj), Calls Try.prog 8 #[.slice a1 (hasAt zs (placeOf zs k)) n1, .slice (some (leftA blk off cap (placeOf zs k))) (hasAt zs (placeOf zs k)) (cap - (placeOf zs k + 1))] ((wr.alloc o).drewN m) fun e w'' => e = .returned (.bool true) ∧ w'' = (wr.alloc o).drewN m := fun m o => by
        have hbm : Below wr.heap.size wr ((wr.alloc o).drewN m) := ((Below.refl _ _).alloc (Nat.le_refl _) o).trans ⟨rfl, rfl, rfl, Nat.le_refl _, fun _ _ => rfl⟩
        refine (lawSame_yes _ _ _ _ (hsc.later hbm) (hscr.later hbm)).mono ?_
        rintro e w' ⟨rfl, rfl⟩
        exact ⟨rfl, rfl⟩
      have k0' : wr.cell? ⟨g, k * 3, none⟩ = some (.int .i64 (placeOf zs k)) := k0
      have k2' : wr.cell? ⟨g, k * 3 + 2, none⟩ = some (.bool (cutAt zs (placeOf zs k))) := k2
      clear k0 k2 hscr hpb
      clear hqk hbd
      generalize placeOf zs k = pl at *
      generalize hasAt zs pl = ha at *
      generalize zs[pl]?.getD 0 = z at *
      generalize cutAt zs pl = cu at *
      have hki : (k : Int) < cnt zs := by omega
      have hcz : cnt zs ≤ zs.length := cnt_le zs
      have hpn : decide (zs.length ≤ pl) = false := decide_eq_false (by omega)
      have hwk : IntKind.i64.wrap (k : Int) = k := by rw [IntKind.wrap_i64]; omega
      have hpj : (pl : Int) < zs.length := by omega
      have hpe : decide (zs.length < pl + 1 + ha) = false := decide_eq_false (by omega)
      have hpe2 : decide ((zs.length : Int) < (pl : Int) + 1 + ha) = false := decide_eq_false (by omega)
      cases cu with
      | true =>
        have hc1 := hCL.out rfl
        have hz1 : (ha : Int) < z := of_decide_eq_true hlast.symm
        clear hlast hHL hTK
        generalize hn : cnt zs = n at *
        subst hc1
        by_cases hck : cap = pl + 1
        · obtain rfl : ha = 0 := by omega
          have hle0 : pl + 1 ≤ zs.length := by omega
          have hpe3 : decide (zs.length < pl + 1) = false := decide_eq_false (by omega)
          have hpe4 : decide ((zs.length : Int) < (pl : Int) + 1) = false := decide_eq_false (by omega)
          have hla : leftA blk off cap pl = ⟨blk, off, none⟩ := if_pos hck
          rw [hla, hck, Nat.sub_self] at hsame
          subst hck
          have hp1 : decide ((pl : Int) + 1 ≤ (pl : Int)) = false := decide_eq_false (by omega)
          have hz2' : (0 : Int) < z := by omega
          go_wp2_with fail
          go_quiet (first | (go_at_call 8; exact Calls.quiet_of_same (hsame _ _)))
          have hbw : Below wr.heap.size wr ((wr.alloc (.cells #[.int .i64 pl, .slice a1 0 n1, .bool true] 28)).drewN nq) := ((Below.refl _ _).alloc (Nat.le_refl _) _).trans ⟨rfl, rfl, rfl, Nat.le_refl _, fun _ _ => rfl⟩
          have hpb : PcBox wr.heap.size pl (.slice a1 0 n1) true ((wr.alloc (.cells #[.int .i64 pl, .slice a1 0 n1, .bool true] 28)).drewN nq) := World.alloc_heap_new wr _
          generalize (wr.alloc (.cells #[.int .i64 pl, .slice a1 0 n1, .bool true] 28)).drewN nq = w2 at *
          obtain ⟨q0, q1, q2⟩ := hpb.cell
          have hzc2 := bcell hbw hLB.1 hzc
          have hpcs2 : PcsL w.heap.size (.slice (some ⟨g, 0, none⟩) (k + 1) c) L w2 := ⟨row_later hpcs.1 hbw, hpcs.2.later hbw⟩
          have hrow2 := row_later hrow hbw
          have hb2 := hb.trans (hbw.mono hb.size)
          clear hsame hzc hs hsc k0' k1 k2' hLB hbw hpcs hrow hb
          go_wp2_with fail
          go_quiet (fail)
          go_wp2_with fail
          have hd : Below w2.heap.size w2 (w2.drewN nq) := ⟨rfl, rfl, rfl, Nat.le_refl _, fun _ _ => rfl⟩
          refine ⟨⟨k + 1, by go_num, ?_, LL, q, by omega, hq, hj, fun hh => by omega, by omega, hfit, hmem, row_later hrow2 hd, ⟨row_later hpcs2.1 hd, hpcs2.2.later hd⟩, hb2.trans (hd.mono hb2.size)⟩, by simp [intOf] <;> omega⟩
          rw [hPS.out]
          go_num
        · have hla : leftA blk off cap pl = ⟨blk, off + (pl + 1), none⟩ := if_neg hck
          rw [hla] at hsame
          go_wp2_with fail
          go_quiet (first | (go_at_call 8; exact Calls.quiet_of_same (hsame _ _)))
          have hbw : Below wr.heap.size wr ((wr.alloc (.cells #[.int .i64 pl, .slice a1 ha n1, .bool true] 28)).drewN nq) := ((Below.refl _ _).alloc (Nat.le_refl _) _).trans ⟨rfl, rfl, rfl, Nat.le_refl _, fun _ _ => rfl⟩
          have hpb : PcBox wr.heap.size pl (.slice a1 ha n1) true ((wr.alloc (.cells #[.int .i64 pl, .slice a1 ha n1, .bool true] 28)).drewN nq) := World.alloc_heap_new wr _
          generalize (wr.alloc (.cells #[.int .i64 pl, .slice a1 ha n1, .bool true] 28)).drewN nq = w2 at *
          obtain ⟨q0, q1, q2⟩ := hpb.cell
          have hzc2 := bcell hbw hLB.1 hzc
          have hpcs2 : PcsL w.heap.size (.slice (some ⟨g, 0, none⟩) (k + 1) c) L w2 := ⟨row_later hpcs.1 hbw, hpcs.2.later hbw⟩
          have hrow2 := row_later hrow hbw
          have hb2 := hb.trans (hbw.mono hb.size)
          clear hsame hzc hs hsc k0' k1 k2' hLB hbw hpcs hrow hb
          go_wp2_with fail
          go_quiet (fail)
          go_wp2_with fail
          have hd : Below w2.heap.size w2 (w2.drewN nq) := ⟨rfl, rfl, rfl, Nat.le_refl _, fun _ _ => rfl⟩
          refine ⟨⟨k + 1, by go_num, ?_, LL, q, by omega, hq, hj, fun hh => by omega, by omega, hfit, hmem, row_later hrow2 hd, ⟨row_later hpcs2.1 hd, hpcs2.2.later hd⟩, hb2.trans (hd.mono hb2.size)⟩, by simp [intOf] <;> omega⟩
          rw [hPS.out]
          go_num
      | false =>
        have hz1 := hHL.out rfl
        have hT1 := Lib.hid (hTK.out rfl)
        subst hz1
        clear hlast hHL hTK hCL
        have hx0 := Lib.hid hx
        clear hx
        by_cases hck : cap = pl + 1
        · obtain rfl : ha = 0 := by omega
          have hle0 : pl + 1 ≤ zs.length := by omega
          have hpe3 : decide (zs.length < pl + 1) = false := decide_eq_false (by omega)
          have hpe4 : decide ((zs.length : Int) < (pl : Int) + 1) = false := decide_eq_false (by omega)
          have hla : leftA blk off cap pl = ⟨blk, off, none⟩ := if_pos hck
          rw [hla, hck, Nat.sub_self] at hsame
          subst hck
          have hp1 : decide ((pl : Int) + 1 ≤ (pl : Int)) = false := decide_eq_false (by omega)
          go_wp2_with fail
          go_quiet (first | (go_at_call 8; exact Calls.quiet_of_same (hsame _ _)))
          have hbw : Below wr.heap.size wr ((wr.alloc (.cells #[.int .i64 pl, .slice a1 0 n1, .bool false] 28)).drewN nq) := ((Below.refl _ _).alloc (Nat.le_refl _) _).trans ⟨rfl, rfl, rfl, Nat.le_refl _, fun _ _ => rfl⟩
          have hpb : PcBox wr.heap.size pl (.slice a1 0 n1) false ((wr.alloc (.cells #[.int .i64 pl, .slice a1 0 n1, .bool false] 28)).drewN nq) := World.alloc_heap_new wr _
          generalize (wr.alloc (.cells #[.int .i64 pl, .slice a1 0 n1, .bool false] 28)).drewN nq = w2 at *
          obtain ⟨q0, q1, q2⟩ := hpb.cell
          have hzc2 := bcell hbw hLB.1 hzc
          have hpcs2 : PcsL w.heap.size (.slice (some ⟨g, 0, none⟩) (cnt zs) c) L w2 := ⟨row_later hpcs.1 hbw, hpcs.2.later hbw⟩
          have hrow2 := row_later hrow hbw
          have hb2 := hb.trans (hbw.mono hb.size)
          clear hsame hzc hs hsc k0' k1 k2' hLB hbw hpcs hrow hb
          have hd : ∀ m, Below w2.heap.size w2 (w2.drewN m) := fun m => ⟨rfl, rfl, rfl, Nat.le_refl _, fun _ _ => rfl⟩
          go_wp2_with fail
          go_quiet (fail)
          go_wp2_with (at_builtin; refine wpList_append_own _ rfl _ _ 26 rfl w.heap.size 22 i0 (.slice none 0 0) 1 24 Try.underlying26 hi.out hz0 hz1 hz2 rfl (by decide) _ _ _ rfl ((row_later hrow2 (hd nq)).alloc _) ⟨w2.heap.size, 0, none⟩ 1 1 [.slice a1 0 n1] rfl rfl (cell_one_new _ _ _) (by simp [Value.oneCell']) (by unfold maxLen; omega) (by omega) (by have := hb2.size; simp; omega) ?_; intro v5 w5 hown5 hgrow5 hnil5)
          obtain ⟨g5, c5, rfl⟩ := ownsRow_succ hown5
          have hb5 : Below w.heap.size w w5 := ((hb2.trans ((hd nq).mono hb2.size)).alloc (by have := hb2.size; simp; omega) _).grown hgrow5 (by have := hb2.size; simp; omega) (fun j e => (hrow2.lt j e).1)
          have hkeep : ∀ (t : TypeId) (sz n : Nat) (x : Value) (xs : List Value), t ≠ 22 → w2.ownsRow w.heap.size t sz x n xs → w5.ownsRow w.heap.size t sz x n xs := fun t sz n x xs ht hx =>
            row_kept ((row_later hx (hd nq)).alloc _) hgrow5 (own_is ((row_later hrow2 (hd nq)).alloc _) t ht)
          refine ⟨⟨k + 1, by go_num, ?_, LL ++ [(.slice a1 0 n1, (pcOf zs pl).bytes)], nextAt zs pl, by omega, (nextAt_le zs pl hkz).2, ?_, fun _ => hPN.out.symm, by simp; omega, ?_, ?_, ?_, ⟨hkeep _ _ _ _ _ (by decide) hpcs2.1, fun x hx => hkeep _ _ _ _ _ (by decide) (hpcs2.2 x hx)⟩, hb5⟩, by simp [intOf] <;> omega⟩
          · rw [hPS.out]
            go_num
          · rw [hT1.out, joinL_snoc, hj, hqk'.out]
          · intro x hx
            rcases List.mem_append.1 hx with hx | hx
            · exact hfit x hx
            · obtain rfl := List.mem_singleton.1 hx
              show (pcOf zs pl).bytes.length ≤ 255
              have := hLN.out
              have := hzb.2
              omega
          · intro x hx
            rcases List.mem_append.1 hx with hx | hx
            · exact hmem x hx
            · obtain rfl := List.mem_singleton.1 hx
              exact ⟨_, List.mem_of_getElem? hx0.out, rfl⟩
          · rw [List.length_append, List.map_append]
            exact hown5
        · have hla : leftA blk off cap pl = ⟨blk, off + (pl + 1), none⟩ := if_neg hck
          rw [hla] at hsame
          go_wp2_with fail
          go_quiet (first | (go_at_call 8; exact Calls.quiet_of_same (hsame _ _)))
          have hbw : Below wr.heap.size wr ((wr.alloc (.cells #[.int .i64 pl, .slice a1 ha n1, .bool false] 28)).drewN nq) := ((Below.refl _ _).alloc (Nat.le_refl _) _).trans ⟨rfl, rfl, rfl, Nat.le_refl _, fun _ _ => rfl⟩
          have hpb : PcBox wr.heap.size pl (.slice a1 ha n1) false ((wr.alloc (.cells #[.int .i64 pl, .slice a1 ha n1, .bool false] 28)).drewN nq) := World.alloc_heap_new wr _
          generalize (wr.alloc (.cells #[.int .i64 pl, .slice a1 ha n1, .bool false] 28)).drewN nq = w2 at *
          obtain ⟨q0, q1, q2⟩ := hpb.cell
          have hzc2 := bcell hbw hLB.1 hzc
          have hpcs2 : PcsL w.heap.size (.slice (some ⟨g, 0, none⟩) (cnt zs) c) L w2 := ⟨row_later hpcs.1 hbw, hpcs.2.later hbw⟩
          have hrow2 := row_later hrow hbw
          have hb2 := hb.trans (hbw.mono hb.size)
          clear hsame hzc hs hsc k0' k1 k2' hLB hbw hpcs hrow hb
          have hd : ∀ m, Below w2.heap.size w2 (w2.drewN m) := fun m => ⟨rfl, rfl, rfl, Nat.le_refl _, fun _ _ => rfl⟩
          go_wp2_with fail
          go_quiet (fail)
          go_wp2_with (at_builtin; refine wpList_append_own _ rfl _ _ 26 rfl w.heap.size 22 i0 (.slice none 0 0) 1 24 Try.underlying26 hi.out hz0 hz1 hz2 rfl (by decide) _ _ _ rfl ((row_later hrow2 (hd nq)).alloc _) ⟨w2.heap.size, 0, none⟩ 1 1 [.slice a1 ha n1] rfl rfl (cell_one_new _ _ _) (by simp [Value.oneCell']) (by unfold maxLen; omega) (by omega) (by have := hb2.size; simp; omega) ?_; intro v5 w5 hown5 hgrow5 hnil5)
          obtain ⟨g5, c5, rfl⟩ := ownsRow_succ hown5
          have hb5 : Below w.heap.size w w5 := ((hb2.trans ((hd nq).mono hb2.size)).alloc (by have := hb2.size; simp; omega) _).grown hgrow5 (by have := hb2.size; simp; omega) (fun j e => (hrow2.lt j e).1)
          have hkeep : ∀ (t : TypeId) (sz n : Nat) (x : Value) (xs : List Value), t ≠ 22 → w2.ownsRow w.heap.size t sz x n xs → w5.ownsRow w.heap.size t sz x n xs := fun t sz n x xs ht hx =>
            row_kept ((row_later hx (hd nq)).alloc _) hgrow5 (own_is ((row_later hrow2 (hd nq)).alloc _) t ht)
          refine ⟨⟨k + 1, by go_num, ?_, LL ++ [(.slice a1 ha n1, (pcOf zs pl).bytes)], nextAt zs pl, by omega, (nextAt_le zs pl hkz).2, ?_, fun _ => hPN.out.symm, by simp; omega, ?_, ?_, ?_, ⟨hkeep _ _ _ _ _ (by decide) hpcs2.1, fun x hx => hkeep _ _ _ _ _ (by decide) (hpcs2.2 x hx)⟩, hb5⟩, by simp [intOf] <;> omega⟩
          · rw [hPS.out]
            go_num
          · rw [hT1.out, joinL_snoc, hj, hqk'.out]
          · intro x hx
            rcases List.mem_append.1 hx with hx | hx
            · exact hfit x hx
            · obtain rfl := List.mem_singleton.1 hx
              show (pcOf zs pl).bytes.length ≤ 255
              have := hLN.out
              have := hzb.2
              omega
          · intro x hx
            rcases List.mem_append.1 hx with hx | hx
            · exact hmem x hx
            · obtain rfl := List.mem_singleton.1 hx
              exact ⟨_, List.mem_of_getElem? hx0.out, rfl⟩
          · rw [List.length_append, List.map_append]
            exact hown5
    · obtain rfl : k = cnt zs := by omega
      clear hqk
      have hjl : (joinL LL).length = q := by rw [hj, List.length_take]; omega
      have hLB := h.later hb
      have hR : RowsAt u5 LL wr := by
        refine ⟨?_, fun x hx => ?_⟩
        · rcases hrow.2 with ⟨rfl, e⟩ | ⟨g5, c5, cur, rfl, _, hg5, _⟩
          · exact .inl ⟨_, _, rfl, List.eq_nil_of_length_eq_zero e⟩
          · refine .inr ⟨g5, 0, c5, rfl, (hrow.lt g5 rfl).2, fun i x hx => ?_⟩
            have hil : i < LL.length := (List.getElem?_eq_some_iff.1 hx).1
            rw [Nat.zero_add, hrow.cellAt i (by omega)]
            simp [hx]
        · obtain ⟨y, hy, rfl⟩ := hmem x hx
          refine scr_of_own (hpcs.2 y hy) (fun z hz => ?_)
          have hym : y.1 ∈ pcsOf zs := by rw [← hL]; exact List.mem_map.2 ⟨y, hy, rfl⟩
          obtain ⟨j, _, hj2⟩ := List.mem_map.1 hym
          rw [← hj2] at hz
          exact h.2.2 z (List.mem_of_mem_drop (List.mem_of_mem_take hz))
      have hcz : cnt zs ≤ zs.length := cnt_le zs
      have hJ := Lib.hid (join_any u5 LL wr hR (by omega))
      have hpe := place_end zs
      rw [hpe] at *
      have hWK := Lib.hid wakes_any
      clear hR hpcs hrow hmem
      go_wp2_with fail
      (with_reducible refine hJ.out.mono ?_)
      rintro e w2 ⟨hb2, ⟨_, v8, rfl, ho8⟩ | ⟨hn, _⟩⟩
      · rw [hjl, hj] at ho8
        have htl : (zs.take q).length = q := by rw [List.length_take]; omega
        have hzb : ∀ z ∈ zs.take q, isByte z := fun z hz => h.2.2 z (List.mem_of_mem_take hz)
        have hs8 : Scr v8 (zs.take q) w2 := scr_of_own (by rw [htl]; exact ho8) hzb
        have hB2 := hb.trans (hb2.mono hb.size)
        have hL2 := h.later hB2
        have hs9 : Scr (.slice (some ⟨blk, off, none⟩) q cap) (zs.take q) w2 := .inr (.inr ⟨blk, off, cap, by rw [htl], by omega, hL2.1, fun i hi => by
          rw [htl] at hi
          rw [hL2.2.1 i (by omega)]
          simp [hi], hzb⟩)
        obtain ⟨a8, n8, rfl⟩ := hs8.shape
        rw [htl] at hs8
        rw [htl]
        have hcp0 : ¬ cap = 0 := by omega
        have hqi : (q : Int) ≤ zs.length := by omega
        clear hJ hj hjl htl ho8 hLB
        go_wp2_with fail
        (with_reducible refine (lawSame_yes _ _ _ w2 hs8 hs9).mono ?_)
        rintro e w3 ⟨rfl, rfl⟩
        go_wp2_with fail
        (with_reducible refine (hWK.out _).mono ?_)
        rintro e w4 ⟨rfl, hb4⟩
        go_wp2
        go_ret
        exact ⟨rfl, hB2.trans (hb4.mono hB2.size)⟩
      · exact absurd hfit hn
end Go.Proofs.Ytepbjjddpfejnaa
