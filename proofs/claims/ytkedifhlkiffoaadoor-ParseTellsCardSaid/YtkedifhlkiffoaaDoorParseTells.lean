/-
  ParseTells of stage 9, at every input: the law's call returns true, for any text, where the ways of comparing lie as the program's text lays them; no other condition.
-/
import Derived.Test.YtkedifhlkiffoaaDoorPZ
import Derived.Test.YtkedifhlkiffoaaDoorPP
import Derived.Test.YtkedifhlkiffoaaDoorLP
namespace Go.Proofs.YtkedifhlkiffoaaDoor.parseTells
open Go.ChangeShapes Go.WideShapes Go.ChangeAt Go.RowKit
open Go.ChangeMaps (open_string shut_string)
open Tree (Tm Cp Sp)
set_option linter.unusedVariables false
set_option linter.unusedSimpArgs false
attribute [local go_sem] Oper.semAt_some
theorem box_later {X Y : World} {p : Nat} {a b : Value} {t : TypeId} (hq : X.heap[p]? = some (.cells #[a, b] t (0, 0))) (hb : Below X.heap.size X Y) :
    Y.heap[p]? = some (.cells #[a, b] t (0, 0)) ∧ Y.cell? ⟨p, 0, none⟩ = some a ∧ Y.cell? ⟨p, 1, none⟩ = some b ∧ ∀ i, Y.frozen? ⟨p, i, none⟩ = false := by
  have h := (hb.block p (Array.getElem?_eq_some_iff.1 hq).1).trans hq
  refine ⟨h, ?_, ?_, fun i => ?_⟩
  · simp [World.cell?, h]
  · simp [World.cell?, h]
  · simp [World.frozen?, h]
theorem bad_one : ∀ (f p : Nat) (l : Bs) (x y : Tk × Nat), x ∈ toksF f p l → y ∈ toksF f p l → x.1.k = 6 → y.1.k = 6 → x = y := by
  intro f
  induction f with
  | zero => intro p l x y hx; cases hx
  | succ f ih =>
    intro p l x y hx hy h1 h2
    simp only [toksF] at hx hy
    by_cases h0 : (textT (firstT (l.drop (blanks l)))).length = 0
    · rw [if_pos h0] at hx hy
      rw [List.mem_singleton.1 hx, List.mem_singleton.1 hy]
    · rw [if_neg h0] at hx hy
      have hne : ¬ (firstT (l.drop (blanks l))).k = 6 := fun e => h0 (by simp [textT, e])
      rcases List.mem_cons.1 hx with rfl | hx
      · exact absurd h1 hne
      rcases List.mem_cons.1 hy with rfl | hy
      · exact absurd h2 hne
      exact ih _ _ _ _ hx hy h1 h2
/-- What is told of any text. -/
def OutA (l : Bs) (L : List (Sp × Value)) (win at_ er : Int) : Prop := Tree.Short L ∧ ((parseL l = .ok (L.map (·.1), win) ∧ at_ = 0 ∧ er = 0) ∨ (parseL l = .error (at_, er) ∧ L = [] ∧ win = 0 ∧ er ≠ 0))
theorem short_nil : Tree.Short ([] : List (Sp × Value)) := ⟨by simp, fun x hx => by cases hx⟩
theorem out_short {l : Bs} {L : List (Sp × Value)} {win : Int} (h : parseL l = .ok (L.map (·.1), win)) : Tree.Short L := by
  unfold parseL at h
  split at h
  · cases h
  · rename_i hl
    split at h
    · cases h
    · cases hp : patP (toks l) with
      | error j => rw [hp] at h; cases h
      | ok p =>
        rw [hp] at h
        have hp2 : p = (L.map (·.1), win) := by simpa using h
        rw [hp2] at hp
        exact patP_short hp (by have := toks_le l; omega) rfl
theorem parse_A (l : Bs) (w : World) (ho : OpsAt w) :
    Calls Tryd.prog 14 #[S l] w fun e w' => ∃ a c L win at_ er, Below w.heap.size w w' ∧ e = .returned (.tuple #[.agg #[.slice a (List.length L) c, .int .i64 win], .int .i64 at_, .int .i64 er]) ∧ Tree.SpsL w' (.slice a (List.length L) c) L ∧ OutA l L win at_ er := by
  refine (parse_L l w ho).mono ?_
  rintro e w' ⟨hb, hm⟩
  cases hp : parseL l with
  | ok p =>
    rw [hp] at hm
    obtain ⟨v, L, rfl, hO, hL⟩ := hm
    obtain ⟨a, c, rfl⟩ := hO.sps.lit rfl
    have hp2 : parseL l = .ok (L.map (·.1), p.2) := by rw [hp, hL]
    exact ⟨a, c, L, p.2, 0, 0, hb, rfl, hO.sps, out_short hp2, .inl ⟨hp2, rfl, rfl⟩⟩
  | error q =>
    rw [hp] at hm
    obtain rfl := hm
    exact ⟨none, 0, [], 0, q.1, q.2, hb, rfl, ⟨⟨none, 0, rfl, .inl rfl⟩, fun x hx => by cases hx⟩, short_nil, .inr ⟨hp, rfl, rfl, parseL_err hp⟩⟩
set_option maxRecDepth 100000 in
set_option maxHeartbeats 1000000 in
theorem refParse_none (s : ByteArray) (p n : Int) (hn : n = 91 ∨ n = 70) (w : World)
    (HA : ∀ W, Calls Tryd.prog 18 #[.string s] W fun e w' => e = .returned (.tuple #[.slice none 0 0, .int .i64 p, .int .i64 n]) ∧ Below W.heap.size W w') :
    Calls Tryd.prog 15 #[.string s] w fun e w' => e = .returned (.tuple #[.agg #[.slice none 0 0, .int .i64 0], .int .i64 p, .int .i64 n]) ∧ Below w.heap.size w w' := by
  have hb0 : Below w.heap.size w (w.alloc (.cells #[.slice none 0 0, .int .i64 0] 25)) := (Below.refl _ w).alloc (Nat.le_refl _) _
  have bS := World.alloc_heap_new w (.cells #[.slice none 0 0, .int .i64 0] 25)
  have M := Lib.hid (HA (w.alloc (.cells #[.slice none 0 0, .int .i64 0] 25)))
  clear HA
  rcases hn with rfl | rfl
  all_goals
    go_enter Tryd.func15, Tryd.ntmps15
    go_wp2_with fail
    (with_reducible refine M.out.mono ?_)
    rintro e w1 ⟨rfl, hb1⟩
    clear M
    obtain ⟨Sb, hSb⟩ : ∃ S, w.heap.size = S := ⟨_, rfl⟩
    have hb2 := hb0.trans (hb1.mono hb0.size)
    have bS1 := (hb1.block _ (Array.getElem?_eq_some_iff.1 bS).1).trans bS
    rw [hSb] at bS1 ⊢
    have s0 : w1.cell? ⟨Sb, 0, none⟩ = some (.slice none 0 0) := by simp [World.cell?, bS1]
    have f0 : w1.frozen? ⟨Sb, 0, none⟩ = false := by simp [World.frozen?, bS1]
    have a1 := box_set bS1 0 (.slice none 0 0)
    simp only [List.setIfInBounds_toArray, List.set_cons_zero, List.set_cons_succ] at a1
    have s1 : (w1.setCell ⟨Sb, 0, none⟩ (.slice none 0 0)).cell? ⟨Sb, 1, none⟩ = some (.int .i64 0) := by simp [World.cell?, a1]
    have f1 : (w1.setCell ⟨Sb, 0, none⟩ (.slice none 0 0)).frozen? ⟨Sb, 1, none⟩ = false := by simp [World.frozen?, a1]
    have a2 := box_set a1 1 (.int .i64 0)
    simp only [List.setIfInBounds_toArray, List.set_cons_zero, List.set_cons_succ] at a2
    have hbZ : Below w.heap.size w ((w1.setCell ⟨Sb, 0, none⟩ (.slice none 0 0)).setCell ⟨Sb, 1, none⟩ (.int .i64 0)) := Below.grown hb2 ((set_grown w1 Sb 0 (.slice none 0 0)).trans (set_grown _ Sb 1 (.int .i64 0))) hb2.size (fun q e => by cases e; omega)
    have c0 : ((w1.setCell ⟨Sb, 0, none⟩ (.slice none 0 0)).setCell ⟨Sb, 1, none⟩ (.int .i64 0)).cell? ⟨Sb, 0, none⟩ = some (.slice none 0 0) := by simp [World.cell?, a2]
    have c1 : ((w1.setCell ⟨Sb, 0, none⟩ (.slice none 0 0)).setCell ⟨Sb, 1, none⟩ (.int .i64 0)).cell? ⟨Sb, 1, none⟩ = some (.int .i64 0) := by simp [World.cell?, a2]
    replace hbZ := Lib.hid hbZ
    clear a1 a2 bS1 hb2 hb1 bS hb0
    go_wp2_with fail
    refine bodyPost_ret (v := .tuple #[.agg #[.slice none 0 0, .int .i64 0], .int .i64 p, .int .i64 _]) ?_ rfl ⟨rfl, hbZ.out⟩
    simp [results, Tryd.results15, go_sem, c0, c1]
theorem refParse_A (l : Bs) (w : World) :
    Calls Tryd.prog 15 #[S l] w fun e w' => ∃ a c L win at_ er, Below w.heap.size w w' ∧ e = .returned (.tuple #[.agg #[.slice a (List.length L) c, .int .i64 win], .int .i64 at_, .int .i64 er]) ∧ Tree.SpsL w' (.slice a (List.length L) c) L ∧ OutA l L win at_ er := by
  have nil : ∀ W : World, Tree.SpsL W (.slice none 0 0) [] := fun W => ⟨⟨none, 0, rfl, .inl rfl⟩, fun x hx => by cases hx⟩
  by_cases hl : 2000 < l.length
  · refine (refParse_none ⟨l.toArray⟩ 2000 91 (.inl rfl) w (fun W => refAll_long ⟨l.toArray⟩ W hl)).mono ?_
    rintro e w' ⟨rfl, hb⟩
    exact ⟨none, 0, [], 0, 2000, 91, hb, rfl, nil _, short_nil, .inr ⟨by unfold parseL; rw [if_pos hl], rfl, rfl, by decide⟩⟩
  cases hf : (toks l).find? (fun x => decide (x.1.k = 6)) with
  | some x =>
    have hm := List.mem_of_find?_eq_some hf
    have hk : x.1.k = 6 := by have := List.find?_some hf; simpa using this
    refine (refParse_none ⟨l.toArray⟩ x.2 70 (.inr rfl) w (fun W => ?_)).mono ?_
    · refine (refAll_short ⟨l.toArray⟩ W (by show l.length ≤ 2000; omega)).mono ?_
      rintro e w' (⟨hno, -⟩ | ⟨t, p, h1, h2, rfl, hb⟩)
      · exact absurd hk (hno _ hm)
      · have := bad_one _ _ _ _ _ h1 hm h2 hk
        rw [← this]
        exact ⟨rfl, hb⟩
    · rintro e w' ⟨rfl, hb⟩
      exact ⟨none, 0, [], 0, x.2, 70, hb, rfl, nil _, short_nil, .inr ⟨by unfold parseL; rw [if_neg hl, hf], rfl, rfl, by decide⟩⟩
  | none =>
    have h6 : ∀ x ∈ toks l, x.1.k ≠ 6 := fun x hx he => by
      have := List.find?_eq_none.1 hf x hx
      simp [he] at this
    refine (refParse_u l w (by omega) h6).mono ?_
    rintro e w' ⟨a, c, L, win, at_, er, hb, rfl, hS, hO⟩
    refine ⟨a, c, L, win, at_, er, hb, rfl, hS, hO.short (by have := toks_le l; omega), ?_⟩
    rcases hO with ⟨h1, rfl, rfl⟩ | ⟨j, x, h1, h2, rfl, rfl, rfl, rfl⟩
    · exact .inl ⟨by unfold parseL; rw [if_neg hl, hf, h1], rfl, rfl⟩
    · exact .inr ⟨by unfold parseL; rw [if_neg hl, hf, h1]; simp [h2], rfl, rfl, by decide⟩
set_option maxRecDepth 100000 in
set_option maxHeartbeats 1000000 in
theorem tells_long (s : ByteArray) (w : World) (ho : OpsAt w) (h : 3000 < s.size) :
    Calls Tryd.prog 3 #[.string s] w fun e w' => e = .returned (.bool true) ∧ Below w.heap.size w w' := by
  have hd : decide ((3000 : Int) < s.size) = true := by simp; omega
  go_enter Tryd.func3, Tryd.ntmps3
  go_wp2_with fail
  (with_reducible refine (wakes_any9 _ ho).mono ?_)
  rintro e w1 ⟨rfl, hb⟩
  go_wp2
  go_ret
  exact ⟨rfl, hb⟩
set_option maxRecDepth 100000 in
set_option maxHeartbeats 4000000 in
theorem tells_short (l : Bs) (w : World) (ho : OpsAt w) (h : l.length ≤ 3000) :
    Calls Tryd.prog 3 #[S l] w fun e w' => e = .returned (.bool true) ∧ Below w.heap.size w w' := by
  have hsz : (⟨l.toArray⟩ : ByteArray).size = l.length := rfl
  have hd : decide ((3000 : Int) < l.length) = false := by simp; omega
  have M1 := Lib.hid (parse_A l w ho)
  have M2 := Lib.hid (fun W => refParse_A l W)
  have M3 := Lib.hid (fun W ho => right_L l W ho)
  unfold S at *
  go_enter Tryd.func3, Tryd.ntmps3
  go_wp2_with fail
  (with_reducible refine M1.out.mono ?_)
  rintro e w1 ⟨a, c, L, win, at1, er1, hb1, rfl, hS1, hSh1, hO1⟩
  obtain ⟨N, hN⟩ : ∃ N, L.length = N := ⟨_, rfl⟩
  rw [hN] at hS1 ⊢
  have hk : Below w1.heap.size w1 (w1.alloc (.cells #[.slice a N c, .int .i64 win] 25)) := (Below.refl _ w1).alloc (Nat.le_refl _) _
  have hb2 := hb1.trans (hk.mono hb1.size)
  have ho2 := (ho.later hb1).later hk
  have hS2 := hS1.later hk
  replace hSh1 := Lib.hid hSh1
  replace hO1 := Lib.hid hO1
  clear M1
  go_wp2_with fail
  (with_reducible refine (M2.out _).mono ?_)
  rintro e w3 ⟨a3, c3, L3, win3, at3, er3, hb3, rfl, hS3, hSh3, hO3⟩
  obtain ⟨N3, hN3⟩ : ∃ N, L3.length = N := ⟨_, rfl⟩
  rw [hN3] at hS3 ⊢
  have hk3 : Below w3.heap.size w3 (w3.alloc (.cells #[.slice a3 N3 c3, .int .i64 win3] 25)) := (Below.refl _ w3).alloc (Nat.le_refl _) _
  have hb4 := hb2.trans (hb3.mono hb2.size)
  have hb5 := hb4.trans (hk3.mono hb4.size)
  have ho5 := (ho2.later hb3).later hk3
  have hSA := (hS2.later hb3).later hk3
  have hSB := hS3.later hk3
  obtain ⟨q1, -, -, -⟩ := box_later (World.alloc_heap_new w1 (.cells #[.slice a N c, .int .i64 win] 25)) hb3
  obtain ⟨-, z0, z1, -⟩ := box_later q1 (hk3.mono (Nat.le_refl _))
  obtain ⟨-, y0, y1, -⟩ := box_later (World.alloc_heap_new w3 (.cells #[.slice a3 N3 c3, .int .i64 win3] 25)) (Below.refl _ _)
  obtain ⟨P1, hP1⟩ : ∃ P, w1.heap.size = P := ⟨_, rfl⟩
  obtain ⟨P3, hP3⟩ : ∃ P, w3.heap.size = P := ⟨_, rfl⟩
  rw [hP1] at z0 z1
  rw [hP3] at y0 y1
  have hSame : L.map (·.1) = L3.map (·.1) ∧ win = win3 ∧ at1 = at3 ∧ er1 = er3 ∧ (er3 == 0) = okE (parseL l) := by
    rcases hO1.out with ⟨e1, rfl, rfl⟩ | ⟨e1, rfl, rfl, e0⟩
    · rcases hO3 with ⟨e3, rfl, rfl⟩ | ⟨e3, rfl, rfl, e4⟩
      · rw [e1] at e3
        have := Except.ok.inj e3
        obtain ⟨c1, c2⟩ := Prod.mk.inj this
        exact ⟨c1, c2, rfl, rfl, by rw [e1]; rfl⟩
      · rw [e1] at e3; cases e3
    · rcases hO3 with ⟨e3, rfl, rfl⟩ | ⟨e3, rfl, rfl, e4⟩
      · rw [e1] at e3; cases e3
      · rw [e1] at e3
        have := Except.error.inj e3
        obtain ⟨c1, c2⟩ := Prod.mk.inj this
        exact ⟨rfl, rfl, c1, c2, by rw [e1]; simpa [okE] using e4⟩
  obtain ⟨s1, s2, rfl, rfl, s5⟩ := hSame
  have HS := Lib.hid (Tree.refSame_V win win3 hSh1.out hSh3 _ hSA hSB)
  have ev : decide (L.map (·.1) = L3.map (·.1) ∧ win = win3) = true := by simp [s1, s2]
  rw [ev] at HS
  replace hb5 := Lib.hid hb5
  replace ho5 := Lib.hid ho5
  clear hb1 hS1 hk hb2 ho2 hS2 hb3 hS3 hk3 hb4 hSA hSB q1 hO1 hO3 hSh1 hSh3 s1 s2 ev M2
  obtain ⟨K, hK⟩ : ∃ K, okE (parseL l) = K := ⟨_, rfl⟩
  rw [hK] at s5 M3
  have e1 : (at1 == at1) = true := by simp
  have e2 : (er1 == er1) = true := by simp
  clear hK
  go_wp2_with fail
  (with_reducible refine HS.out.mono ?_)
  rintro e w6 ⟨rfl, hb6⟩
  have ho6 := ho5.out.later hb6
  have hb7 := hb5.out.trans (hb6.mono hb5.out.size)
  clear HS z0 z1 y0 y1
  go_wp2_with fail
  (with_reducible refine (M3.out w6 ho6).mono ?_)
  rintro e w8 ⟨rfl, hb8⟩
  have ho8 := ho6.later hb8
  have hb9 := hb7.trans (hb8.mono hb7.size)
  go_wp2_with fail
  (with_reducible refine (wakes_any9 w8 ho8).mono ?_)
  rintro e w9 ⟨rfl, hb10⟩
  go_wp2
  go_ret
  exact ⟨rfl, hb9.trans (hb10.mono hb9.size)⟩
theorem walk (s : ByteArray) (w : World) (ho : OpsAt w) (hs : s.size ≤ maxLen) :
    Calls Tryd.prog 3 #[.string s] w fun e w' => e = .returned (.bool true) ∧ Below w.heap.size w w' := by
  by_cases h : 3000 < s.size
  · exact tells_long s w ho h
  · exact tells_short s.data.toList w ho (by have : s.data.toList.length = s.size := rfl; omega)
set_option maxRecDepth 100000 in
theorem lifted (os : Os) (started : os.Started) (H : Type) (enc : TypeId × Value → H) :
    ReturnsInHanded {} Tryd.checked os 3 .any (fun w args => (Rows.parseTellsSpec.pre enc Tryd.prog Tryd.f3 [] false w args ∧ laidMetH Tryd.prog laid1 w) ∧ sizedMet enc Tryd.prog Tryd.f3 (OpenSpec.ofChange Rows.parseTellsSpec) false w args)
      (Rows.parseTellsSpec.post enc Tryd.prog Tryd.f3 false true false false) := by
  refine returnsInHanded_of_change_and (C := Tryd.checked) (X := fun w _ => laidMetH Tryd.prog laid1 w) (fun _ _ _ hh h => h.of_heap hh) own started (by kernel_rfl) Tryd.func3
    (ChangeSpec.witness_shaped (enc := enc) (C := Tryd.checked) (os := os) (X := fun w _ => laidMetH Tryd.prog laid1 w) false (World.doorLaid Tryd.prog 400 os) #[.string ⟨#[]⟩] 8 rfl (World.shaped_of_RefB (by kernel_rfl) (by kernel_rfl)) (by kernel_rfl) (by kernel_rfl) (by kernel_rfl) (door_met os _)) ?_
  intro W base args ds gs before hval0 hW _ _ hL _
  have hval : ∀ (j : Nat) t v, Tryd.f3.params[j]? = some t → args[j]? = some v → Value.okWide Tryd.prog W .any base t v := hval0
  have hW' := hW
  obtain ⟨p, q, hA0, hV, rfl, hfz, hnd⟩ := hW
  have hA : DataW.TrodAll enc Tryd.prog W 0 (fun _ => true) true Tryd.f3.params.toList args.toList ds p := hA0
  rw [Tryd.params3] at hA hval
  obtain ⟨v0, vs0, d0, ds0, p0, q0, hargs, rfl, rfl, h0, r0⟩ := trodAll_cons hA
  obtain ⟨rfl, rfl, rfl⟩ := trodAll_nil r0
  obtain rfl : args = #[v0] := by cases args; simp_all
  obtain ⟨rfl, rfl⟩ := trodVars_none hV
  obtain ⟨a0, rfl, rfl, rfl, w0⟩ := open_string Tryd.underlying9 (hval 0 9 v0 rfl rfl) h0
  have ho := ops_of_laid hL
  clear hA0 hval0
  refine (walk a0 W ho w0).mono fun e W' ⟨he, bel⟩ => ?_
  subst he
  exact ⟨_, rfl, _, _, _, [], _, [], hW', trodAll_mk1 (shut_bool Tryd.underlying4 _), (trodAll_cons_mk (shut_string Tryd.underlying9 w0) trodAll_mk0), rfl, bel.frame _, fun h => by cases h⟩

theorem over : Rows.parseTellsRow.holds Tryd.pinned (OpenSpec.ofChange Rows.parseTellsSpec) :=
  OpenClaim.holds_of_wide 3 Tryd.f3 rfl rfl rfl rfl rfl rfl rfl ⟨rfl, rfl, rfl, rfl, rfl⟩ rfl rfl rfl rfl rfl (by kernel_rfl) Tryd.func3 (by kernel_rfl)
    (of_decide_eq_true (by kernel_rfl)) (by unfold Func.isWrapper; first | (rw [if_pos (by decide +kernel)]; kernel_rfl) | (rw [if_neg (by decide +kernel)]; exact ⟨rfl, rfl⟩))
    (fun os started H enc _ => lifted os started H enc)

theorem proved : Rows.ParseTellsCardSaid :=
  Claim7.holds_tied_plain_at .later [] [.data] true (true, "8951fcf2f1aa268f231726c1c9c9cc5d68f7a7c78d087fffac500afabcc0f7a2") true
    over (fun _ h => by cases h) (by kernel_rfl) (fun _ h => by cases h) parseTells_row_tie rfl ⟨rfl, rfl⟩ (by kernel_rfl) rfl
    (fun f fn hf hfn => by
      obtain rfl : f = 3 := Option.some.inj ((show Tryd.prog.funcNamed "straggle/stragglelaw09.ParseTells" = some 3 by kernel_rfl).symm.trans hf) |>.symm
      obtain rfl : fn = Tryd.f3 := (Option.some.inj (Tryd.func3.symm.trans hfn)).symm
      exact ⟨by kernel_rfl, fun j t ht => by
        rw [Tryd.params3] at ht
        have hm : t ∈ [9] := by simpa using Array.mem_of_getElem? ht
        have hall : ([9].all fun u => !Tryd.prog.wantsStandIn u) = true := by kernel_rfl
        exact (show Tryd.prog.wantsStandIn t = false by simpa using List.all_eq_true.1 hall t hm)⟩)
    (by kernel_rfl)
#print axioms proved
end Go.Proofs.YtkedifhlkiffoaaDoor.parseTells
