/-
  Contract of wakes: what the document says of a dot product, of two steps.
-/
import Derived.Test.YtkibnbcdmkogkaaAM
namespace Go.Proofs.Ytkibnbcdmkogkaa
open Go.ChangeShapes Go.WideShapes Go.ChangeAt Go.RowKit
set_option linter.unusedVariables false
set_option linter.unusedSimpArgs false
attribute [local go_sem] Oper.semAt_some
set_option maxRecDepth 100000 in
set_option maxHeartbeats 40000000 in
theorem wakes_any (w : World) : Calls Try.prog 9 #[] w fun e w' => e = .returned (.bool true) ∧ Below w.heap.size w w' := by
  go_enter Try.func9, Try.ntmps9
  go_wp2_with fail
  refine (two_any w).mono ?_
  rintro e w1 ⟨v1, u1, u2, rfl, O1, B1⟩
  obtain ⟨g1, c1, rfl⟩ := ownsRow_succ O1.1
  go_wp2_with fail
  refine (two_any w1).mono ?_
  rintro e w2 ⟨v2, x1, x2, rfl, O2, B2⟩
  obtain ⟨g2, c2, rfl⟩ := ownsRow_succ O2.1
  have hk := below_two w2 (.cells #[.slice (some ⟨g1, 0, none⟩) 2 c1, .int .i64 9] 24) (.cells #[.slice (some ⟨g2, 0, none⟩) 2 c2, .int .i64 9] 24)
  have hP1 : PtBox w2.heap.size (.slice (some ⟨g1, 0, none⟩) 2 c1) 9 ((w2.alloc (.cells #[.slice (some ⟨g1, 0, none⟩) 2 c1, .int .i64 9] 24)).alloc (.cells #[.slice (some ⟨g2, 0, none⟩) 2 c2, .int .i64 9] 24)) := (PtBox.new w2 _ _).later (kept_new _ _)
  have hP2 : PtBox (w2.heap.size + 1) (.slice (some ⟨g2, 0, none⟩) 2 c2) 9 ((w2.alloc (.cells #[.slice (some ⟨g1, 0, none⟩) 2 c1, .int .i64 9] 24)).alloc (.cells #[.slice (some ⟨g2, 0, none⟩) 2 c2, .int .i64 9] 24)) := new_two w2 _ _
  have p20 := hP2.c0
  have hR2 := (O2.later hk).1
  obtain ⟨-, -, -, -, -, z5, z6⟩ := row_step (i := 1) hR2 (by simp) rfl
  have q5 := keepC (World.grownBy_alloc _ (.cells #[.int .u8 1, .int .u8 2, .int .i64 0, .int .i64 0, .int .i64 1, .int .u8 0, .int .i64 0, .int .i64 0, .int .i64 0] 45) none) z5
  have q6 := keepF (World.grownBy_alloc _ (.cells #[.int .u8 1, .int .u8 2, .int .i64 0, .int .i64 0, .int .i64 1, .int .u8 0, .int .i64 0, .int .i64 0, .int .i64 0] 45) none) z5 z6
  go_wp2_with fail
  obtain ⟨d1, e1, rfl⟩ := ownsRow_succ (k := 0) (O1.2 (sA, u1) (List.mem_cons_self ..))
  obtain ⟨d2, e2, rfl⟩ := ownsRow_succ (k := 1) (O1.2 (sB, u2) (List.mem_cons_of_mem _ (List.mem_singleton.2 rfl)))
  have hW := wk_mid (g1 := g1) (g2 := g2) (c1 := c1) (c2 := c2) B1 O1 B2 O2
  clear z5 z6 q5 q6 hR2 p20 hP1 hP2 hk O1 O2 B1 B2
  generalize ((((w2.alloc (.cells #[.slice (some ⟨g1, 0, none⟩) 2 c1, .int .i64 9] 24)).alloc (.cells #[.slice (some ⟨g2, 0, none⟩) 2 c2, .int .i64 9] 24)).alloc (.cells #[.int .u8 1, .int .u8 2, .int .i64 0, .int .i64 0, .int .i64 1, .int .u8 0, .int .i64 0, .int .i64 0, .int .i64 0] 45)).setCell ⟨g2, 11, none⟩ (.slice (some ⟨w2.heap.size + 1 + 1, 0, none⟩) 1 1)) = W at *
  generalize (.slice (some ⟨w2.heap.size + 1 + 1, 0, none⟩) 1 1 : Value) = y at *
  generalize w2.heap.size = P1 at *
  refine (wkLong hW).mono ?_
  rintro e w3 ⟨rfl, hW3⟩
  clear hW
  go_wp2_with fail
  refine wp_region_any (by kernel_rfl) ?_
  dsimp only [List.append]
  rename_i Qp K hKK
  generalize hops : (List.toArray _ : Array Oper) = ops
  have T68 : ∀ (s5 s6 s7 s8 s9 s10 s11 s12 s13 s14 s15 s16 s17 s18 s19 s20 s21 s22 s23 s24 s25 s26 s27 s28 s29 s30 s31 s32 s33 s34 s35 s36 s37 s38 s39 s40 s41 s42 s43 s44 s45 s46 s47 s48 s49 s50 s51 s52 s53 s54 s55 s56 s57 s58 s59 s60 s61 s62 s63 s64 s65 s66 s67 s68 s69 s70 s71 s72 s73 s74 s75 s76 s77 s78 s79 s80 s81 s82 s83 : Value) (X : World), Wk w P1 g1 c1 d1 e1 d2 e2 (.slice (some ⟨g2, 0, none⟩) 2 c2) x1 y X → wpAny Try.prog .any ops (Exit.then K Qp) 4 (firstL 72 68) { tmps := #[.bool false, .pointer (some ⟨P1, 0, none⟩), .pointer (some ⟨P1 + 1, 0, none⟩), .int .i64 1, .int .i64 3, s5, s6, s7, s8, s9, s10, s11, s12, s13, s14, s15, s16, s17, s18, s19, s20, s21, s22, s23, s24, s25, s26, s27, s28, s29, s30, s31, s32, s33, s34, s35, s36, s37, s38, s39, s40, s41, s42, s43, s44, s45, s46, s47, s48, s49, s50, s51, s52, s53, s54, s55, s56, s57, s58, s59, s60, s61, s62, s63, s64, s65, s66, s67, s68, s69, s70, s71, s72, s73, s74, s75, s76, s77, s78, s79, s80, s81, s82, s83, .bool true, ptV (.slice (some ⟨g1, 0, none⟩) 2 c1) 9, ptV (.slice (some ⟨g2, 0, none⟩) 2 c2) 9, undef, undef, undef], defers := [] } X := by
    as_aux_lemma =>
    intro s5 s6 s7 s8 s9 s10 s11 s12 s13 s14 s15 s16 s17 s18 s19 s20 s21 s22 s23 s24 s25 s26 s27 s28 s29 s30 s31 s32 s33 s34 s35 s36 s37 s38 s39 s40 s41 s42 s43 s44 s45 s46 s47 s48 s49 s50 s51 s52 s53 s54 s55 s56 s57 s58 s59 s60 s61 s62 s63 s64 s65 s66 s67 s68 s69 s70 s71 s72 s73 s74 s75 s76 s77 s78 s79 s80 s81 s82 s83 X hW' 
    obtain ⟨z0, z1, z2, z3, z4, z5, z6, z7, z8, z9, z10, z11, z12, z13, z14⟩ := hW'.cells
    refine any_seg (fu := 0) (l2 := firstL 72 72) [68, 69, 70, 71] (by rfl) (by rw [← hops]; kernel_rfl) ?_
    obtain ⟨lz, hlz⟩ : ∃ l, atL ops [68, 69, 70, 71] = l := ⟨_, rfl⟩
    rw [hlz]
    rw [← hops] at hlz
    simp only [atL, List.filterMap_cons, List.filterMap_nil, List.getElem?_toArray, List.getElem?_cons_succ, List.getElem?_cons_zero] at hlz
    subst hlz
    refine wpSeg_want (by rw [← hops]; kernel_rfl) (fun K' hK => ?_)
    go_simp
    refine (wkSameBad hW').mono ?_
    rintro e Xa ⟨rfl, hW', hb⟩
    dsimp only
    refine hK _ _ ?_
    clear hK K'
    (try simp only [Act.put, List.setIfInBounds_toArray, List.set_cons_zero, List.set_cons_succ])
    clear z0 z1 z2 z3 z4 z5 z6 z7 z8 z9 z10 z11 z12 z13 z14
    obtain ⟨z0, z1, z2, z3, z4, z5, z6, z7, z8, z9, z10, z11, z12, z13, z14⟩ := hW'.cells
    refine wpSeg_want (by rw [← hops]; kernel_rfl) (fun K' hK => ?_)
    go_simp
    refine hK _ _ ?_
    clear hK K'
    (try simp only [Act.put, List.setIfInBounds_toArray, List.set_cons_zero, List.set_cons_succ])
    refine wpSeg_want (by rfl) (fun K' hK => ?_)
    go_simp
    refine hK _ _ ?_
    clear hK K'
    (try simp only [Act.put, List.setIfInBounds_toArray, List.set_cons_zero, List.set_cons_succ])
    refine wpSeg_want (by rfl) (fun K' hK => ?_)
    go_simp
    refine hK _ _ ?_
    clear hK K'
    (try simp only [Act.put, List.setIfInBounds_toArray, List.set_cons_zero, List.set_cons_succ])
    show wpAny _ _ _ _ _ _ _ _
    refine any_end (by rw [← hops]; kernel_rfl) ?_
    go_wp2
    go_ret
    exact ⟨rfl, wkEnd hW'⟩
  have T63 : ∀ (s5 s6 s7 s8 s9 s10 s11 s12 s13 s14 s15 s16 s17 s18 s19 s20 s21 s22 s23 s24 s25 s26 s27 s28 s29 s30 s31 s32 s33 s34 s35 s36 s37 s38 s39 s40 s41 s42 s43 s44 s45 s46 s47 s48 s49 s50 s51 s52 s53 s54 s55 s56 s57 s58 s59 s60 s61 s62 s63 s64 s65 s66 s67 s68 s69 s70 s71 s72 s73 s74 s75 s76 s77 s79 n1 : Value) (X : World), Wk w P1 g1 c1 d1 e1 d2 e2 (.slice (some ⟨g2, 0, none⟩) 2 c2) x1 y X → AsA X n1 → wpAny Try.prog .any ops (Exit.then K Qp) 9 (firstL 72 63) { tmps := #[.bool false, .pointer (some ⟨P1, 0, none⟩), .pointer (some ⟨P1 + 1, 0, none⟩), .int .i64 1, .int .i64 3, s5, s6, s7, s8, s9, s10, s11, s12, s13, s14, s15, s16, s17, s18, s19, s20, s21, s22, s23, s24, s25, s26, s27, s28, s29, s30, s31, s32, s33, s34, s35, s36, s37, s38, s39, s40, s41, s42, s43, s44, s45, s46, s47, s48, s49, s50, s51, s52, s53, s54, s55, s56, s57, s58, s59, s60, s61, s62, s63, s64, s65, s66, s67, s68, s69, s70, s71, s72, s73, s74, s75, s76, s77, .bool true, s79, .agg #[n1, .int .i64 9], ptV (.slice (some ⟨g1, 0, none⟩) 2 c1) 9, undef, undef, undef, undef, undef, undef, undef, undef], defers := [] } X := by
    as_aux_lemma =>
    intro s5 s6 s7 s8 s9 s10 s11 s12 s13 s14 s15 s16 s17 s18 s19 s20 s21 s22 s23 s24 s25 s26 s27 s28 s29 s30 s31 s32 s33 s34 s35 s36 s37 s38 s39 s40 s41 s42 s43 s44 s45 s46 s47 s48 s49 s50 s51 s52 s53 s54 s55 s56 s57 s58 s59 s60 s61 s62 s63 s64 s65 s66 s67 s68 s69 s70 s71 s72 s73 s74 s75 s76 s77 s79 n1 X hW' hA
    obtain ⟨z0, z1, z2, z3, z4, z5, z6, z7, z8, z9, z10, z11, z12, z13, z14⟩ := hW'.cells
    refine any_seg (fu := 6) (l2 := firstL 72 66) [63, 64, 65] (by rfl) (by rw [← hops]; kernel_rfl) ?_
    obtain ⟨lz, hlz⟩ : ∃ l, atL ops [63, 64, 65] = l := ⟨_, rfl⟩
    rw [hlz]
    rw [← hops] at hlz
    simp only [atL, List.filterMap_cons, List.filterMap_nil, List.getElem?_toArray, List.getElem?_cons_succ, List.getElem?_cons_zero] at hlz
    subst hlz
    refine wpSeg_want (by rw [← hops]; kernel_rfl) (fun K' hK => ?_)
    go_simp
    refine (wkSameOwn hW' hA).mono ?_
    rintro e Xa ⟨rfl, hW', hb⟩
    dsimp only
    refine hK _ _ ?_
    clear hK K'
    (try simp only [Act.put, List.setIfInBounds_toArray, List.set_cons_zero, List.set_cons_succ])
    clear z0 z1 z2 z3 z4 z5 z6 z7 z8 z9 z10 z11 z12 z13 z14
    obtain ⟨z0, z1, z2, z3, z4, z5, z6, z7, z8, z9, z10, z11, z12, z13, z14⟩ := hW'.cells
    refine wpSeg_want (by rfl) (fun K' hK => ?_)
    go_simp
    refine hK _ _ ?_
    clear hK K'
    (try simp only [Act.put, List.setIfInBounds_toArray, List.set_cons_zero, List.set_cons_succ])
    refine wpSeg_want (by rfl) (fun K' hK => ?_)
    go_simp
    refine hK _ _ ?_
    clear hK K'
    (try simp only [Act.put, List.setIfInBounds_toArray, List.set_cons_zero, List.set_cons_succ])
    show wpAny _ _ _ _ _ _ _ _
    refine any_split (j := 66) (g := 67) (f1 := 5) (f2 := 4) (l1 := firstL 72 67) (l2 := firstL 72 68) [66] (by rw [← hops]; kernel_rfl) (by rw [← hops]; kernel_rfl) (by rfl) (by kernel_rfl) ?_ (by rfl) (by rw [← hops]; kernel_rfl) ?_
    rotate_left
    · obtain ⟨lz, hlz⟩ : ∃ l, atL ops [67, 66] = l := ⟨_, rfl⟩
      rw [hlz]
      rw [← hops] at hlz
      simp only [atL, List.filterMap_cons, List.filterMap_nil, List.getElem?_toArray, List.getElem?_cons_succ, List.getElem?_cons_zero] at hlz
      subst hlz
      refine wpSeg_want (by rw [← hops]; kernel_rfl) (fun K' hK => ?_)
      go_simp
      refine hK _ _ ?_
      clear hK K'
      (try simp only [Act.put, List.setIfInBounds_toArray, List.set_cons_zero, List.set_cons_succ])
      refine wpSeg_want (by rw [← hops]; kernel_rfl) (fun K' hK => ?_)
      go_simp
      refine hK _ _ ?_
      clear hK K'
      (try simp only [Act.put, List.setIfInBounds_toArray, List.set_cons_zero, List.set_cons_succ])
      exact T68 _ _ _ _ _ _ _ _ _ _ _ _ _ _ _ _ _ _ _ _ _ _ _ _ _ _ _ _ _ _ _ _ _ _ _ _ _ _ _ _ _ _ _ _ _ _ _ _ _ _ _ _ _ _ _ _ _ _ _ _ _ _ _ _ _ _ _ _ _ _ _ _ _ _ _ _ _ _ _ _ hW' 
    obtain ⟨lz, hlz⟩ : ∃ l, atL ops [66] = l := ⟨_, rfl⟩
    rw [hlz]
    rw [← hops] at hlz
    simp only [atL, List.filterMap_cons, List.filterMap_nil, List.getElem?_toArray, List.getElem?_cons_succ, List.getElem?_cons_zero] at hlz
    subst hlz
    refine wpSeg_want (by rw [← hops]; kernel_rfl) (fun K' hK => ?_)
    go_simp
    refine hK _ _ ?_
    clear hK K'
    (try simp only [Act.put, List.setIfInBounds_toArray, List.set_cons_zero, List.set_cons_succ])
    show wpAny _ _ _ _ _ _ _ _
    refine any_seg (fu := 4) (l2 := firstL 72 68) [67] (by rfl) (by rw [← hops]; kernel_rfl) ?_
    obtain ⟨lz, hlz⟩ : ∃ l, atL ops [67] = l := ⟨_, rfl⟩
    rw [hlz]
    rw [← hops] at hlz
    simp only [atL, List.filterMap_cons, List.filterMap_nil, List.getElem?_toArray, List.getElem?_cons_succ, List.getElem?_cons_zero] at hlz
    subst hlz
    refine wpSeg_want (by rw [← hops]; kernel_rfl) (fun K' hK => ?_)
    go_simp
    refine hK _ _ ?_
    clear hK K'
    (try simp only [Act.put, List.setIfInBounds_toArray, List.set_cons_zero, List.set_cons_succ])
    exact T68 _ _ _ _ _ _ _ _ _ _ _ _ _ _ _ _ _ _ _ _ _ _ _ _ _ _ _ _ _ _ _ _ _ _ _ _ _ _ _ _ _ _ _ _ _ _ _ _ _ _ _ _ _ _ _ _ _ _ _ _ _ _ _ _ _ _ _ _ _ _ _ _ _ _ _ _ _ _ _ _ hW' 
  have T30 : ∀ (s5 s6 s7 s8 s9 s10 s11 s12 s13 s14 s15 s16 s17 s18 s19 s20 s21 s22 s23 s24 s25 s26 s27 s28 s29 s30 s31 s32 s33 s34 s35 s36 s37 s38 s39 s40 s41 s42 s43 s44 s46 n1 v28 : Value) (X : World), Wk w P1 g1 c1 d1 e1 d2 e2 (.slice (some ⟨g2, 0, none⟩) 2 c2) x1 y X → IntsAt X n1 [0] → IntsAt X v28 [0] → wpAny Try.prog .any ops (Exit.then K Qp) 42 (firstL 72 30) { tmps := #[.bool false, .pointer (some ⟨P1, 0, none⟩), .pointer (some ⟨P1 + 1, 0, none⟩), .int .i64 1, .int .i64 3, s5, s6, s7, s8, s9, s10, s11, s12, s13, s14, s15, s16, s17, s18, s19, s20, s21, s22, s23, s24, s25, s26, s27, s28, s29, s30, s31, s32, s33, s34, s35, s36, s37, s38, s39, s40, s41, s42, s43, s44, .bool true, s46, n1, v28, undef, undef, undef, undef, undef, undef, undef, undef, undef, undef, undef, undef, undef, undef, undef, undef, undef, undef, undef, undef, undef, undef, undef, undef, undef, undef, undef, undef, undef, undef, undef, undef, undef, undef, undef, undef, undef, undef, undef, undef, undef], defers := [] } X := by
    as_aux_lemma =>
    intro s5 s6 s7 s8 s9 s10 s11 s12 s13 s14 s15 s16 s17 s18 s19 s20 s21 s22 s23 s24 s25 s26 s27 s28 s29 s30 s31 s32 s33 s34 s35 s36 s37 s38 s39 s40 s41 s42 s43 s44 s46 n1 v28 X hW' hI1 hI2
    obtain ⟨z0, z1, z2, z3, z4, z5, z6, z7, z8, z9, z10, z11, z12, z13, z14⟩ := hW'.cells
    refine any_seg (fu := 12) (l2 := firstL 72 60) [30, 31, 32, 33, 34, 35, 36, 37, 38, 39, 40, 41, 42, 43, 44, 45, 46, 47, 48, 49, 50, 51, 52, 53, 54, 55, 56, 57, 58, 59] (by rfl) (by rw [← hops]; kernel_rfl) ?_
    obtain ⟨lz, hlz⟩ : ∃ l, atL ops [30, 31, 32, 33, 34, 35, 36, 37, 38, 39, 40, 41, 42, 43, 44, 45, 46, 47, 48, 49, 50, 51, 52, 53, 54, 55, 56, 57, 58, 59] = l := ⟨_, rfl⟩
    rw [hlz]
    rw [← hops] at hlz
    simp only [atL, List.filterMap_cons, List.filterMap_nil, List.getElem?_toArray, List.getElem?_cons_succ, List.getElem?_cons_zero] at hlz
    subst hlz
    refine wpSeg_want (by rw [← hops]; kernel_rfl) (fun K' hK => ?_)
    go_simp
    refine (wkInts (l := [0]) hW' hI1 hI2 (by decide)).mono ?_
    rintro e Xa ⟨rfl, hW', hb⟩
    dsimp only
    refine hK _ _ ?_
    clear hK K'
    (try simp only [Act.put, List.setIfInBounds_toArray, List.set_cons_zero, List.set_cons_succ])
    clear z0 z1 z2 z3 z4 z5 z6 z7 z8 z9 z10 z11 z12 z13 z14
    obtain ⟨z0, z1, z2, z3, z4, z5, z6, z7, z8, z9, z10, z11, z12, z13, z14⟩ := hW'.cells
    refine wpSeg_want (by rfl) (fun K' hK => ?_)
    go_simp
    refine hK _ _ ?_
    clear hK K'
    (try simp only [Act.put, List.setIfInBounds_toArray, List.set_cons_zero, List.set_cons_succ])
    refine wpSeg_want (by rfl) (fun K' hK => ?_)
    go_simp
    refine hK _ _ ?_
    clear hK K'
    (try simp only [Act.put, List.setIfInBounds_toArray, List.set_cons_zero, List.set_cons_succ])
    refine wpSeg_want (by rw [← hops]; kernel_rfl) (fun K' hK => ?_)
    go_simp
    refine hK _ _ ?_
    clear hK K'
    (try simp only [Act.put, List.setIfInBounds_toArray, List.set_cons_zero, List.set_cons_succ])
    refine wpSeg_want (by rw [← hops]; kernel_rfl) (fun K' hK => ?_)
    go_simp
    refine hK _ _ ?_
    clear hK K'
    (try simp only [Act.put, List.setIfInBounds_toArray, List.set_cons_zero, List.set_cons_succ])
    refine wpSeg_want (by rfl) (fun K' hK => ?_)
    go_simp
    refine hK _ _ ?_
    clear hK K'
    (try simp only [Act.put, List.setIfInBounds_toArray, List.set_cons_zero, List.set_cons_succ])
    refine wpSeg_want (by rfl) (fun K' hK => ?_)
    go_simp
    refine hK _ _ ?_
    clear hK K'
    (try simp only [Act.put, List.setIfInBounds_toArray, List.set_cons_zero, List.set_cons_succ])
    refine wpSeg_want (by rw [← hops]; kernel_rfl) (fun K' hK => ?_)
    go_simp
    refine hK _ _ ?_
    clear hK K'
    (try simp only [Act.put, List.setIfInBounds_toArray, List.set_cons_zero, List.set_cons_succ])
    refine wpSeg_want (by rw [← hops]; kernel_rfl) (fun K' hK => ?_)
    go_simp
    refine hK _ _ ?_
    clear hK K'
    (try simp only [Act.put, List.setIfInBounds_toArray, List.set_cons_zero, List.set_cons_succ])
    refine wpSeg_want (by rfl) (fun K' hK => ?_)
    go_simp
    refine hK _ _ ?_
    clear hK K'
    (try simp only [Act.put, List.setIfInBounds_toArray, List.set_cons_zero, List.set_cons_succ])
    refine wpSeg_want (by rfl) (fun K' hK => ?_)
    go_simp
    refine hK _ _ ?_
    clear hK K'
    (try simp only [Act.put, List.setIfInBounds_toArray, List.set_cons_zero, List.set_cons_succ])
    refine wpSeg_want (by rw [← hops]; kernel_rfl) (fun K' hK => ?_)
    go_simp
    refine hK _ _ ?_
    clear hK K'
    (try simp only [Act.put, List.setIfInBounds_toArray, List.set_cons_zero, List.set_cons_succ])
    refine wpSeg_want (by rw [← hops]; kernel_rfl) (fun K' hK => ?_)
    go_simp
    refine (wkSize hW').mono ?_
    rintro e Xa ⟨rfl, hW', hb⟩
    dsimp only
    refine hK _ _ ?_
    clear hK K'
    (try simp only [Act.put, List.setIfInBounds_toArray, List.set_cons_zero, List.set_cons_succ])
    clear z0 z1 z2 z3 z4 z5 z6 z7 z8 z9 z10 z11 z12 z13 z14
    obtain ⟨z0, z1, z2, z3, z4, z5, z6, z7, z8, z9, z10, z11, z12, z13, z14⟩ := hW'.cells
    refine wpSeg_want (by rw [← hops]; kernel_rfl) (fun K' hK => ?_)
    go_simp
    refine hK _ _ ?_
    clear hK K'
    (try simp only [Act.put, List.setIfInBounds_toArray, List.set_cons_zero, List.set_cons_succ])
    refine wpSeg_want (by rfl) (fun K' hK => ?_)
    go_simp
    refine hK _ _ ?_
    clear hK K'
    (try simp only [Act.put, List.setIfInBounds_toArray, List.set_cons_zero, List.set_cons_succ])
    refine wpSeg_want (by rfl) (fun K' hK => ?_)
    go_simp
    refine hK _ _ ?_
    clear hK K'
    (try simp only [Act.put, List.setIfInBounds_toArray, List.set_cons_zero, List.set_cons_succ])
    refine wpSeg_want (by rw [← hops]; kernel_rfl) (fun K' hK => ?_)
    go_simp
    refine hK _ _ ?_
    clear hK K'
    (try simp only [Act.put, List.setIfInBounds_toArray, List.set_cons_zero, List.set_cons_succ])
    refine wpSeg_want (by rw [← hops]; kernel_rfl) (fun K' hK => ?_)
    go_simp
    refine (wkRight hW').mono ?_
    rintro e Xa ⟨rfl, hW', hb⟩
    dsimp only
    refine hK _ _ ?_
    clear hK K'
    (try simp only [Act.put, List.setIfInBounds_toArray, List.set_cons_zero, List.set_cons_succ])
    clear z0 z1 z2 z3 z4 z5 z6 z7 z8 z9 z10 z11 z12 z13 z14
    obtain ⟨z0, z1, z2, z3, z4, z5, z6, z7, z8, z9, z10, z11, z12, z13, z14⟩ := hW'.cells
    refine wpSeg_want (by rfl) (fun K' hK => ?_)
    go_simp
    refine hK _ _ ?_
    clear hK K'
    (try simp only [Act.put, List.setIfInBounds_toArray, List.set_cons_zero, List.set_cons_succ])
    refine wpSeg_want (by rfl) (fun K' hK => ?_)
    go_simp
    refine hK _ _ ?_
    clear hK K'
    (try simp only [Act.put, List.setIfInBounds_toArray, List.set_cons_zero, List.set_cons_succ])
    refine wpSeg_want (by rw [← hops]; kernel_rfl) (fun K' hK => ?_)
    go_simp
    refine hK _ _ ?_
    clear hK K'
    (try simp only [Act.put, List.setIfInBounds_toArray, List.set_cons_zero, List.set_cons_succ])
    refine wpSeg_want (by rw [← hops]; kernel_rfl) (fun K' hK => ?_)
    go_simp
    refine (wkRightBad hW').mono ?_
    rintro e Xa ⟨rfl, hW', hb⟩
    dsimp only
    refine hK _ _ ?_
    clear hK K'
    (try simp only [Act.put, List.setIfInBounds_toArray, List.set_cons_zero, List.set_cons_succ])
    clear z0 z1 z2 z3 z4 z5 z6 z7 z8 z9 z10 z11 z12 z13 z14
    obtain ⟨z0, z1, z2, z3, z4, z5, z6, z7, z8, z9, z10, z11, z12, z13, z14⟩ := hW'.cells
    refine wpSeg_want (by rw [← hops]; kernel_rfl) (fun K' hK => ?_)
    go_simp
    refine hK _ _ ?_
    clear hK K'
    (try simp only [Act.put, List.setIfInBounds_toArray, List.set_cons_zero, List.set_cons_succ])
    refine wpSeg_want (by rfl) (fun K' hK => ?_)
    go_simp
    refine hK _ _ ?_
    clear hK K'
    (try simp only [Act.put, List.setIfInBounds_toArray, List.set_cons_zero, List.set_cons_succ])
    refine wpSeg_want (by rfl) (fun K' hK => ?_)
    go_simp
    refine hK _ _ ?_
    clear hK K'
    (try simp only [Act.put, List.setIfInBounds_toArray, List.set_cons_zero, List.set_cons_succ])
    refine wpSeg_want (by rw [← hops]; kernel_rfl) (fun K' hK => ?_)
    go_simp
    refine hK _ _ ?_
    clear hK K'
    (try simp only [Act.put, List.setIfInBounds_toArray, List.set_cons_zero, List.set_cons_succ])
    refine wpSeg_want (by rw [← hops]; kernel_rfl) (fun K' hK => ?_)
    go_simp
    refine (wkRightNil hW').mono ?_
    rintro e Xa ⟨rfl, hW', hb⟩
    dsimp only
    refine hK _ _ ?_
    clear hK K'
    (try simp only [Act.put, List.setIfInBounds_toArray, List.set_cons_zero, List.set_cons_succ])
    clear z0 z1 z2 z3 z4 z5 z6 z7 z8 z9 z10 z11 z12 z13 z14
    obtain ⟨z0, z1, z2, z3, z4, z5, z6, z7, z8, z9, z10, z11, z12, z13, z14⟩ := hW'.cells
    refine wpSeg_want (by rw [← hops]; kernel_rfl) (fun K' hK => ?_)
    go_simp
    refine hK _ _ ?_
    clear hK K'
    (try simp only [Act.put, List.setIfInBounds_toArray, List.set_cons_zero, List.set_cons_succ])
    refine wpSeg_want (by rfl) (fun K' hK => ?_)
    go_simp
    refine hK _ _ ?_
    clear hK K'
    (try simp only [Act.put, List.setIfInBounds_toArray, List.set_cons_zero, List.set_cons_succ])
    refine wpSeg_want (by rfl) (fun K' hK => ?_)
    go_simp
    refine hK _ _ ?_
    clear hK K'
    (try simp only [Act.put, List.setIfInBounds_toArray, List.set_cons_zero, List.set_cons_succ])
    show wpAny _ _ _ _ _ _ _ _
    refine any_split (j := 60) (g := 62) (f1 := 11) (f2 := 9) (l1 := firstL 72 61) (l2 := firstL 72 63) [60, 61] (by rw [← hops]; kernel_rfl) (by rw [← hops]; kernel_rfl) (by rfl) (by kernel_rfl) ?_ (by rfl) (by rw [← hops]; kernel_rfl) ?_
    rotate_left
    · obtain ⟨lz, hlz⟩ : ∃ l, atL ops [62, 60, 61] = l := ⟨_, rfl⟩
      rw [hlz]
      rw [← hops] at hlz
      simp only [atL, List.filterMap_cons, List.filterMap_nil, List.getElem?_toArray, List.getElem?_cons_succ, List.getElem?_cons_zero] at hlz
      subst hlz
      refine wpSeg_want (by rw [← hops]; kernel_rfl) (fun K' hK => ?_)
      go_simp
      refine hK _ _ ?_
      clear hK K'
      (try simp only [Act.put, List.setIfInBounds_toArray, List.set_cons_zero, List.set_cons_succ])
      refine wpSeg_want (by rw [← hops]; kernel_rfl) (fun K' hK => ?_)
      go_simp
      refine hK _ _ ?_
      clear hK K'
      (try simp only [Act.put, List.setIfInBounds_toArray, List.set_cons_zero, List.set_cons_succ])
      refine wpSeg_want (by rw [← hops]; kernel_rfl) (fun K' hK => ?_)
      go_simp
      refine (wkOwn hW').mono ?_
      rintro e Xa ⟨n1, rfl, hA, hW', hb⟩
      dsimp only
      refine hK _ _ ?_
      clear hK K'
      (try simp only [Act.put, List.setIfInBounds_toArray, List.set_cons_zero, List.set_cons_succ])
      clear z0 z1 z2 z3 z4 z5 z6 z7 z8 z9 z10 z11 z12 z13 z14
      obtain ⟨z0, z1, z2, z3, z4, z5, z6, z7, z8, z9, z10, z11, z12, z13, z14⟩ := hW'.cells
      exact T63 _ _ _ _ _ _ _ _ _ _ _ _ _ _ _ _ _ _ _ _ _ _ _ _ _ _ _ _ _ _ _ _ _ _ _ _ _ _ _ _ _ _ _ _ _ _ _ _ _ _ _ _ _ _ _ _ _ _ _ _ _ _ _ _ _ _ _ _ _ _ _ _ _ _ _ _ hW' hA
    obtain ⟨lz, hlz⟩ : ∃ l, atL ops [60] = l := ⟨_, rfl⟩
    rw [hlz]
    rw [← hops] at hlz
    simp only [atL, List.filterMap_cons, List.filterMap_nil, List.getElem?_toArray, List.getElem?_cons_succ, List.getElem?_cons_zero] at hlz
    subst hlz
    refine wpSeg_want (by rw [← hops]; kernel_rfl) (fun K' hK => ?_)
    go_simp
    refine hK _ _ ?_
    clear hK K'
    (try simp only [Act.put, List.setIfInBounds_toArray, List.set_cons_zero, List.set_cons_succ])
    show wpAny _ _ _ _ _ _ _ _
    refine any_split (j := 61) (g := 62) (f1 := 10) (f2 := 9) (l1 := firstL 72 62) (l2 := firstL 72 63) [61] (by rw [← hops]; kernel_rfl) (by rw [← hops]; kernel_rfl) (by rfl) (by kernel_rfl) ?_ (by rfl) (by rw [← hops]; kernel_rfl) ?_
    rotate_left
    · obtain ⟨lz, hlz⟩ : ∃ l, atL ops [62, 61] = l := ⟨_, rfl⟩
      rw [hlz]
      rw [← hops] at hlz
      simp only [atL, List.filterMap_cons, List.filterMap_nil, List.getElem?_toArray, List.getElem?_cons_succ, List.getElem?_cons_zero] at hlz
      subst hlz
      refine wpSeg_want (by rw [← hops]; kernel_rfl) (fun K' hK => ?_)
      go_simp
      refine hK _ _ ?_
      clear hK K'
      (try simp only [Act.put, List.setIfInBounds_toArray, List.set_cons_zero, List.set_cons_succ])
      refine wpSeg_want (by rw [← hops]; kernel_rfl) (fun K' hK => ?_)
      go_simp
      refine (wkOwn hW').mono ?_
      rintro e Xa ⟨n1, rfl, hA, hW', hb⟩
      dsimp only
      refine hK _ _ ?_
      clear hK K'
      (try simp only [Act.put, List.setIfInBounds_toArray, List.set_cons_zero, List.set_cons_succ])
      clear z0 z1 z2 z3 z4 z5 z6 z7 z8 z9 z10 z11 z12 z13 z14
      obtain ⟨z0, z1, z2, z3, z4, z5, z6, z7, z8, z9, z10, z11, z12, z13, z14⟩ := hW'.cells
      exact T63 _ _ _ _ _ _ _ _ _ _ _ _ _ _ _ _ _ _ _ _ _ _ _ _ _ _ _ _ _ _ _ _ _ _ _ _ _ _ _ _ _ _ _ _ _ _ _ _ _ _ _ _ _ _ _ _ _ _ _ _ _ _ _ _ _ _ _ _ _ _ _ _ _ _ _ _ hW' hA
    obtain ⟨lz, hlz⟩ : ∃ l, atL ops [61] = l := ⟨_, rfl⟩
    rw [hlz]
    rw [← hops] at hlz
    simp only [atL, List.filterMap_cons, List.filterMap_nil, List.getElem?_toArray, List.getElem?_cons_succ, List.getElem?_cons_zero] at hlz
    subst hlz
    refine wpSeg_want (by rw [← hops]; kernel_rfl) (fun K' hK => ?_)
    go_simp
    refine (wkOwn hW').mono ?_
    rintro e Xa ⟨n1, rfl, hA, hW', hb⟩
    dsimp only
    refine hK _ _ ?_
    clear hK K'
    (try simp only [Act.put, List.setIfInBounds_toArray, List.set_cons_zero, List.set_cons_succ])
    clear z0 z1 z2 z3 z4 z5 z6 z7 z8 z9 z10 z11 z12 z13 z14
    obtain ⟨z0, z1, z2, z3, z4, z5, z6, z7, z8, z9, z10, z11, z12, z13, z14⟩ := hW'.cells
    show wpAny _ _ _ _ _ _ _ _
    refine any_seg (fu := 9) (l2 := firstL 72 63) [62] (by rfl) (by rw [← hops]; kernel_rfl) ?_
    obtain ⟨lz, hlz⟩ : ∃ l, atL ops [62] = l := ⟨_, rfl⟩
    rw [hlz]
    rw [← hops] at hlz
    simp only [atL, List.filterMap_cons, List.filterMap_nil, List.getElem?_toArray, List.getElem?_cons_succ, List.getElem?_cons_zero] at hlz
    subst hlz
    refine wpSeg_want (by rw [← hops]; kernel_rfl) (fun K' hK => ?_)
    go_simp
    refine hK _ _ ?_
    clear hK K'
    (try simp only [Act.put, List.setIfInBounds_toArray, List.set_cons_zero, List.set_cons_succ])
    exact T63 _ _ _ _ _ _ _ _ _ _ _ _ _ _ _ _ _ _ _ _ _ _ _ _ _ _ _ _ _ _ _ _ _ _ _ _ _ _ _ _ _ _ _ _ _ _ _ _ _ _ _ _ _ _ _ _ _ _ _ _ _ _ _ _ _ _ _ _ _ _ _ _ _ _ _ _ hW' hA
  have T24 : ∀ (s5 s6 s7 s8 s9 s10 s11 s12 s13 s14 s15 s16 s17 s18 s19 s20 s21 s22 s23 s24 s25 s26 s27 s28 s29 s30 s31 s32 s33 s34 s35 s37 s38 s39 s40 n1 v28 : Value) (X : World), Wk w P1 g1 c1 d1 e1 d2 e2 (.slice (some ⟨g2, 0, none⟩) 2 c2) x1 y X → IntsAt X n1 [0, 1, 2] → IntsAt X v28 [0, 1, 2] → wpAny Try.prog .any ops (Exit.then K Qp) 48 (firstL 72 24) { tmps := #[.bool false, .pointer (some ⟨P1, 0, none⟩), .pointer (some ⟨P1 + 1, 0, none⟩), .int .i64 1, .int .i64 3, s5, s6, s7, s8, s9, s10, s11, s12, s13, s14, s15, s16, s17, s18, s19, s20, s21, s22, s23, s24, s25, s26, s27, s28, s29, s30, s31, s32, s33, s34, s35, .bool true, s37, s38, s39, s40, n1, v28, undef, undef, undef, undef, undef, undef, undef, undef, undef, undef, undef, undef, undef, undef, undef, undef, undef, undef, undef, undef, undef, undef, undef, undef, undef, undef, undef, undef, undef, undef, undef, undef, undef, undef, undef, undef, undef, undef, undef, undef, undef, undef, undef, undef, undef, undef, undef], defers := [] } X := by
    as_aux_lemma =>
    intro s5 s6 s7 s8 s9 s10 s11 s12 s13 s14 s15 s16 s17 s18 s19 s20 s21 s22 s23 s24 s25 s26 s27 s28 s29 s30 s31 s32 s33 s34 s35 s37 s38 s39 s40 n1 v28 X hW' hI1 hI2
    obtain ⟨z0, z1, z2, z3, z4, z5, z6, z7, z8, z9, z10, z11, z12, z13, z14⟩ := hW'.cells
    refine any_seg (fu := 45) (l2 := firstL 72 27) [24, 25, 26] (by rfl) (by rw [← hops]; kernel_rfl) ?_
    obtain ⟨lz, hlz⟩ : ∃ l, atL ops [24, 25, 26] = l := ⟨_, rfl⟩
    rw [hlz]
    rw [← hops] at hlz
    simp only [atL, List.filterMap_cons, List.filterMap_nil, List.getElem?_toArray, List.getElem?_cons_succ, List.getElem?_cons_zero] at hlz
    subst hlz
    refine wpSeg_want (by rw [← hops]; kernel_rfl) (fun K' hK => ?_)
    go_simp
    refine (wkInts (l := [0, 1, 2]) hW' hI1 hI2 (by decide)).mono ?_
    rintro e Xa ⟨rfl, hW', hb⟩
    dsimp only
    refine hK _ _ ?_
    clear hK K'
    (try simp only [Act.put, List.setIfInBounds_toArray, List.set_cons_zero, List.set_cons_succ])
    clear z0 z1 z2 z3 z4 z5 z6 z7 z8 z9 z10 z11 z12 z13 z14
    obtain ⟨z0, z1, z2, z3, z4, z5, z6, z7, z8, z9, z10, z11, z12, z13, z14⟩ := hW'.cells
    refine wpSeg_want (by rfl) (fun K' hK => ?_)
    go_simp
    refine hK _ _ ?_
    clear hK K'
    (try simp only [Act.put, List.setIfInBounds_toArray, List.set_cons_zero, List.set_cons_succ])
    refine wpSeg_want (by rfl) (fun K' hK => ?_)
    go_simp
    refine hK _ _ ?_
    clear hK K'
    (try simp only [Act.put, List.setIfInBounds_toArray, List.set_cons_zero, List.set_cons_succ])
    show wpAny _ _ _ _ _ _ _ _
    refine any_split (j := 27) (g := 29) (f1 := 44) (f2 := 42) (l1 := firstL 72 28) (l2 := firstL 72 30) [27, 28] (by rw [← hops]; kernel_rfl) (by rw [← hops]; kernel_rfl) (by rfl) (by kernel_rfl) ?_ (by rfl) (by rw [← hops]; kernel_rfl) ?_
    rotate_left
    · obtain ⟨lz, hlz⟩ : ∃ l, atL ops [29, 27, 28] = l := ⟨_, rfl⟩
      rw [hlz]
      rw [← hops] at hlz
      simp only [atL, List.filterMap_cons, List.filterMap_nil, List.getElem?_toArray, List.getElem?_cons_succ, List.getElem?_cons_zero] at hlz
      subst hlz
      refine wpSeg_want (by rw [← hops]; kernel_rfl) (fun K' hK => ?_)
      go_simp
      refine hK _ _ ?_
      clear hK K'
      (try simp only [Act.put, List.setIfInBounds_toArray, List.set_cons_zero, List.set_cons_succ])
      have hI2 := lit0 Xa
      have hW' := hW'.later (kept_new Xa (.cells #[.int .i64 0] 3))
      clear z0 z1 z2 z3 z4 z5 z6 z7 z8 z9 z10 z11 z12 z13 z14
      obtain ⟨z0, z1, z2, z3, z4, z5, z6, z7, z8, z9, z10, z11, z12, z13, z14⟩ := hW'.cells
      refine wpSeg_want (by rw [← hops]; kernel_rfl) (fun K' hK => ?_)
      go_simp
      refine hK _ _ ?_
      clear hK K'
      (try simp only [Act.put, List.setIfInBounds_toArray, List.set_cons_zero, List.set_cons_succ])
      refine wpSeg_want (by rw [← hops]; kernel_rfl) (fun K' hK => ?_)
      go_simp
      refine (wkPos hW').mono ?_
      rintro e Xa ⟨n1, rfl, hI1, hW', hb⟩
      dsimp only
      refine hK _ _ ?_
      clear hK K'
      (try simp only [Act.put, List.setIfInBounds_toArray, List.set_cons_zero, List.set_cons_succ])
      clear z0 z1 z2 z3 z4 z5 z6 z7 z8 z9 z10 z11 z12 z13 z14
      obtain ⟨z0, z1, z2, z3, z4, z5, z6, z7, z8, z9, z10, z11, z12, z13, z14⟩ := hW'.cells
      have hI2 := hI2.later hb
      exact T30 _ _ _ _ _ _ _ _ _ _ _ _ _ _ _ _ _ _ _ _ _ _ _ _ _ _ _ _ _ _ _ _ _ _ _ _ _ _ _ _ _ _ _ _ hW' hI1 hI2
    obtain ⟨lz, hlz⟩ : ∃ l, atL ops [27] = l := ⟨_, rfl⟩
    rw [hlz]
    rw [← hops] at hlz
    simp only [atL, List.filterMap_cons, List.filterMap_nil, List.getElem?_toArray, List.getElem?_cons_succ, List.getElem?_cons_zero] at hlz
    subst hlz
    refine wpSeg_want (by rw [← hops]; kernel_rfl) (fun K' hK => ?_)
    go_simp
    refine hK _ _ ?_
    clear hK K'
    (try simp only [Act.put, List.setIfInBounds_toArray, List.set_cons_zero, List.set_cons_succ])
    show wpAny _ _ _ _ _ _ _ _
    refine any_split (j := 28) (g := 29) (f1 := 43) (f2 := 42) (l1 := firstL 72 29) (l2 := firstL 72 30) [28] (by rw [← hops]; kernel_rfl) (by rw [← hops]; kernel_rfl) (by rfl) (by kernel_rfl) ?_ (by rfl) (by rw [← hops]; kernel_rfl) ?_
    rotate_left
    · obtain ⟨lz, hlz⟩ : ∃ l, atL ops [29, 28] = l := ⟨_, rfl⟩
      rw [hlz]
      rw [← hops] at hlz
      simp only [atL, List.filterMap_cons, List.filterMap_nil, List.getElem?_toArray, List.getElem?_cons_succ, List.getElem?_cons_zero] at hlz
      subst hlz
      refine wpSeg_want (by rw [← hops]; kernel_rfl) (fun K' hK => ?_)
      go_simp
      refine hK _ _ ?_
      clear hK K'
      (try simp only [Act.put, List.setIfInBounds_toArray, List.set_cons_zero, List.set_cons_succ])
      have hI2 := lit0 Xa
      have hW' := hW'.later (kept_new Xa (.cells #[.int .i64 0] 3))
      clear z0 z1 z2 z3 z4 z5 z6 z7 z8 z9 z10 z11 z12 z13 z14
      obtain ⟨z0, z1, z2, z3, z4, z5, z6, z7, z8, z9, z10, z11, z12, z13, z14⟩ := hW'.cells
      refine wpSeg_want (by rw [← hops]; kernel_rfl) (fun K' hK => ?_)
      go_simp
      refine (wkPos hW').mono ?_
      rintro e Xa ⟨n1, rfl, hI1, hW', hb⟩
      dsimp only
      refine hK _ _ ?_
      clear hK K'
      (try simp only [Act.put, List.setIfInBounds_toArray, List.set_cons_zero, List.set_cons_succ])
      clear z0 z1 z2 z3 z4 z5 z6 z7 z8 z9 z10 z11 z12 z13 z14
      obtain ⟨z0, z1, z2, z3, z4, z5, z6, z7, z8, z9, z10, z11, z12, z13, z14⟩ := hW'.cells
      have hI2 := hI2.later hb
      exact T30 _ _ _ _ _ _ _ _ _ _ _ _ _ _ _ _ _ _ _ _ _ _ _ _ _ _ _ _ _ _ _ _ _ _ _ _ _ _ _ _ _ _ _ _ hW' hI1 hI2
    obtain ⟨lz, hlz⟩ : ∃ l, atL ops [28] = l := ⟨_, rfl⟩
    rw [hlz]
    rw [← hops] at hlz
    simp only [atL, List.filterMap_cons, List.filterMap_nil, List.getElem?_toArray, List.getElem?_cons_succ, List.getElem?_cons_zero] at hlz
    subst hlz
    refine wpSeg_want (by rw [← hops]; kernel_rfl) (fun K' hK => ?_)
    go_simp
    refine (wkPos hW').mono ?_
    rintro e Xa ⟨n1, rfl, hI1, hW', hb⟩
    dsimp only
    refine hK _ _ ?_
    clear hK K'
    (try simp only [Act.put, List.setIfInBounds_toArray, List.set_cons_zero, List.set_cons_succ])
    clear z0 z1 z2 z3 z4 z5 z6 z7 z8 z9 z10 z11 z12 z13 z14
    obtain ⟨z0, z1, z2, z3, z4, z5, z6, z7, z8, z9, z10, z11, z12, z13, z14⟩ := hW'.cells
    show wpAny _ _ _ _ _ _ _ _
    refine any_seg (fu := 42) (l2 := firstL 72 30) [29] (by rfl) (by rw [← hops]; kernel_rfl) ?_
    obtain ⟨lz, hlz⟩ : ∃ l, atL ops [29] = l := ⟨_, rfl⟩
    rw [hlz]
    rw [← hops] at hlz
    simp only [atL, List.filterMap_cons, List.filterMap_nil, List.getElem?_toArray, List.getElem?_cons_succ, List.getElem?_cons_zero] at hlz
    subst hlz
    refine wpSeg_want (by rw [← hops]; kernel_rfl) (fun K' hK => ?_)
    go_simp
    refine hK _ _ ?_
    clear hK K'
    (try simp only [Act.put, List.setIfInBounds_toArray, List.set_cons_zero, List.set_cons_succ])
    have hI2 := lit0 Xa
    have hI1 := hI1.later (kept_new Xa (.cells #[.int .i64 0] 3))
    have hW' := hW'.later (kept_new Xa (.cells #[.int .i64 0] 3))
    clear z0 z1 z2 z3 z4 z5 z6 z7 z8 z9 z10 z11 z12 z13 z14
    obtain ⟨z0, z1, z2, z3, z4, z5, z6, z7, z8, z9, z10, z11, z12, z13, z14⟩ := hW'.cells
    exact T30 _ _ _ _ _ _ _ _ _ _ _ _ _ _ _ _ _ _ _ _ _ _ _ _ _ _ _ _ _ _ _ _ _ _ _ _ _ _ _ _ _ _ _ _ hW' hI1 hI2
  have T10 : ∀ (s5 s6 s7 s8 s9 s10 s11 s12 s13 s14 s15 s16 s17 s18 s19 s20 s21 s22 s23 s24 s25 s26 n1 v28 : Value) (X : World), Wk w P1 g1 c1 d1 e1 d2 e2 (.slice (some ⟨g2, 0, none⟩) 2 c2) x1 y X → IntsAt X n1 [2, 0] → IntsAt X v28 [2, 0] → wpAny Try.prog .any ops (Exit.then K Qp) 62 (firstL 72 10) { tmps := #[.bool false, .pointer (some ⟨P1, 0, none⟩), .pointer (some ⟨P1 + 1, 0, none⟩), .int .i64 1, .int .i64 3, s5, s6, s7, s8, s9, s10, s11, s12, s13, s14, s15, s16, s17, s18, s19, s20, s21, s22, s23, s24, s25, s26, n1, v28, undef, undef, undef, undef, undef, undef, undef, undef, undef, undef, undef, undef, undef, undef, undef, undef, undef, undef, undef, undef, undef, undef, undef, undef, undef, undef, undef, undef, undef, undef, undef, undef, undef, undef, undef, undef, undef, undef, undef, undef, undef, undef, undef, undef, undef, undef, undef, undef, undef, undef, undef, undef, undef, undef, undef, undef, undef, undef, undef, undef, undef], defers := [] } X := by
    as_aux_lemma =>
    intro s5 s6 s7 s8 s9 s10 s11 s12 s13 s14 s15 s16 s17 s18 s19 s20 s21 s22 s23 s24 s25 s26 n1 v28 X hW' hI1 hI2
    obtain ⟨z0, z1, z2, z3, z4, z5, z6, z7, z8, z9, z10, z11, z12, z13, z14⟩ := hW'.cells
    refine any_seg (fu := 54) (l2 := firstL 72 18) [10, 11, 12, 13, 14, 15, 16, 17] (by rfl) (by rw [← hops]; kernel_rfl) ?_
    obtain ⟨lz, hlz⟩ : ∃ l, atL ops [10, 11, 12, 13, 14, 15, 16, 17] = l := ⟨_, rfl⟩
    rw [hlz]
    rw [← hops] at hlz
    simp only [atL, List.filterMap_cons, List.filterMap_nil, List.getElem?_toArray, List.getElem?_cons_succ, List.getElem?_cons_zero] at hlz
    subst hlz
    refine wpSeg_want (by rfl) (fun K' hK => ?_)
    go_simp
    refine (wkInts (l := [2, 0]) hW' hI1 hI2 (by decide)).mono ?_
    rintro e Xa ⟨rfl, hW', hb⟩
    dsimp only
    refine hK _ _ ?_
    clear hK K'
    (try simp only [Act.put, List.setIfInBounds_toArray, List.set_cons_zero, List.set_cons_succ])
    clear z0 z1 z2 z3 z4 z5 z6 z7 z8 z9 z10 z11 z12 z13 z14
    obtain ⟨z0, z1, z2, z3, z4, z5, z6, z7, z8, z9, z10, z11, z12, z13, z14⟩ := hW'.cells
    refine wpSeg_want (by rfl) (fun K' hK => ?_)
    go_simp
    refine hK _ _ ?_
    clear hK K'
    (try simp only [Act.put, List.setIfInBounds_toArray, List.set_cons_zero, List.set_cons_succ])
    refine wpSeg_want (by rw [← hops]; kernel_rfl) (fun K' hK => ?_)
    go_simp
    refine hK _ _ ?_
    clear hK K'
    (try simp only [Act.put, List.setIfInBounds_toArray, List.set_cons_zero, List.set_cons_succ])
    refine wpSeg_want (by rw [← hops]; kernel_rfl) (fun K' hK => ?_)
    go_simp
    refine (wkNames2 hW').mono ?_
    rintro e Xa ⟨a0, c0, rfl, hW', hb⟩
    dsimp only
    refine hK _ _ ?_
    clear hK K'
    (try simp only [Act.put, List.setIfInBounds_toArray, List.set_cons_zero, List.set_cons_succ])
    clear z0 z1 z2 z3 z4 z5 z6 z7 z8 z9 z10 z11 z12 z13 z14
    obtain ⟨z0, z1, z2, z3, z4, z5, z6, z7, z8, z9, z10, z11, z12, z13, z14⟩ := hW'.cells
    refine wpSeg_want (by rw [← hops]; kernel_rfl) (fun K' hK => ?_)
    go_simp
    refine hK _ _ ?_
    clear hK K'
    (try simp only [Act.put, List.setIfInBounds_toArray, List.set_cons_zero, List.set_cons_succ])
    refine wpSeg_want (by rw [← hops]; kernel_rfl) (fun K' hK => ?_)
    go_simp
    refine hK _ _ ?_
    clear hK K'
    (try simp only [Act.put, List.setIfInBounds_toArray, List.set_cons_zero, List.set_cons_succ])
    refine wpSeg_want (by rfl) (fun K' hK => ?_)
    go_simp
    refine hK _ _ ?_
    clear hK K'
    (try simp only [Act.put, List.setIfInBounds_toArray, List.set_cons_zero, List.set_cons_succ])
    refine wpSeg_want (by rfl) (fun K' hK => ?_)
    go_simp
    refine hK _ _ ?_
    clear hK K'
    (try simp only [Act.put, List.setIfInBounds_toArray, List.set_cons_zero, List.set_cons_succ])
    show wpAny _ _ _ _ _ _ _ _
    refine any_split (j := 18) (g := 23) (f1 := 53) (f2 := 48) (l1 := firstL 72 19) (l2 := firstL 72 24) [18, 19, 20, 21, 22] (by rw [← hops]; kernel_rfl) (by rw [← hops]; kernel_rfl) (by rfl) (by kernel_rfl) ?_ (by rfl) (by rw [← hops]; kernel_rfl) ?_
    rotate_left
    · obtain ⟨lz, hlz⟩ : ∃ l, atL ops [23, 18, 19, 20, 21, 22] = l := ⟨_, rfl⟩
      rw [hlz]
      rw [← hops] at hlz
      simp only [atL, List.filterMap_cons, List.filterMap_nil, List.getElem?_toArray, List.getElem?_cons_succ, List.getElem?_cons_zero] at hlz
      subst hlz
      refine wpSeg_want (by rw [← hops]; kernel_rfl) (fun K' hK => ?_)
      go_simp
      refine hK _ _ ?_
      clear hK K'
      (try simp only [Act.put, List.setIfInBounds_toArray, List.set_cons_zero, List.set_cons_succ])
      have hI2 := lit012 Xa
      have hW' := hW'.later (kept_new Xa (.cells #[.int .i64 0, .int .i64 1, .int .i64 2] 3))
      clear z0 z1 z2 z3 z4 z5 z6 z7 z8 z9 z10 z11 z12 z13 z14
      obtain ⟨z0, z1, z2, z3, z4, z5, z6, z7, z8, z9, z10, z11, z12, z13, z14⟩ := hW'.cells
      refine wpSeg_want (by rw [← hops]; kernel_rfl) (fun K' hK => ?_)
      go_simp
      refine hK _ _ ?_
      clear hK K'
      (try simp only [Act.put, List.setIfInBounds_toArray, List.set_cons_zero, List.set_cons_succ])
      refine wpSeg_want (by rw [← hops]; kernel_rfl) (fun K' hK => ?_)
      go_simp
      refine hK _ _ ?_
      clear hK K'
      (try simp only [Act.put, List.setIfInBounds_toArray, List.set_cons_zero, List.set_cons_succ])
      refine wpSeg_want (by rw [← hops]; kernel_rfl) (fun K' hK => ?_)
      go_simp
      refine hK _ _ ?_
      clear hK K'
      (try simp only [Act.put, List.setIfInBounds_toArray, List.set_cons_zero, List.set_cons_succ])
      refine wpSeg_want (by rw [← hops]; kernel_rfl) (fun K' hK => ?_)
      go_simp
      refine hK _ _ ?_
      clear hK K'
      (try simp only [Act.put, List.setIfInBounds_toArray, List.set_cons_zero, List.set_cons_succ])
      refine wpSeg_want (by rw [← hops]; kernel_rfl) (fun K' hK => ?_)
      go_simp
      refine (wkAsked hW').mono ?_
      rintro e Xa ⟨n1, rfl, hI1, hW', hb⟩
      dsimp only
      refine hK _ _ ?_
      clear hK K'
      (try simp only [Act.put, List.setIfInBounds_toArray, List.set_cons_zero, List.set_cons_succ])
      clear z0 z1 z2 z3 z4 z5 z6 z7 z8 z9 z10 z11 z12 z13 z14
      obtain ⟨z0, z1, z2, z3, z4, z5, z6, z7, z8, z9, z10, z11, z12, z13, z14⟩ := hW'.cells
      have hI2 := hI2.later hb
      exact T24 _ _ _ _ _ _ _ _ _ _ _ _ _ _ _ _ _ _ _ _ _ _ _ _ _ _ _ _ _ _ _ _ _ _ _ _ _ _ hW' hI1 hI2
    obtain ⟨lz, hlz⟩ : ∃ l, atL ops [18] = l := ⟨_, rfl⟩
    rw [hlz]
    rw [← hops] at hlz
    simp only [atL, List.filterMap_cons, List.filterMap_nil, List.getElem?_toArray, List.getElem?_cons_succ, List.getElem?_cons_zero] at hlz
    subst hlz
    refine wpSeg_want (by rw [← hops]; kernel_rfl) (fun K' hK => ?_)
    go_simp
    refine hK _ _ ?_
    clear hK K'
    (try simp only [Act.put, List.setIfInBounds_toArray, List.set_cons_zero, List.set_cons_succ])
    show wpAny _ _ _ _ _ _ _ _
    refine any_split (j := 19) (g := 23) (f1 := 52) (f2 := 48) (l1 := firstL 72 20) (l2 := firstL 72 24) [19, 20, 21, 22] (by rw [← hops]; kernel_rfl) (by rw [← hops]; kernel_rfl) (by rfl) (by kernel_rfl) ?_ (by rfl) (by rw [← hops]; kernel_rfl) ?_
    rotate_left
    · obtain ⟨lz, hlz⟩ : ∃ l, atL ops [23, 19, 20, 21, 22] = l := ⟨_, rfl⟩
      rw [hlz]
      rw [← hops] at hlz
      simp only [atL, List.filterMap_cons, List.filterMap_nil, List.getElem?_toArray, List.getElem?_cons_succ, List.getElem?_cons_zero] at hlz
      subst hlz
      refine wpSeg_want (by rw [← hops]; kernel_rfl) (fun K' hK => ?_)
      go_simp
      refine hK _ _ ?_
      clear hK K'
      (try simp only [Act.put, List.setIfInBounds_toArray, List.set_cons_zero, List.set_cons_succ])
      have hI2 := lit012 Xa
      have hW' := hW'.later (kept_new Xa (.cells #[.int .i64 0, .int .i64 1, .int .i64 2] 3))
      clear z0 z1 z2 z3 z4 z5 z6 z7 z8 z9 z10 z11 z12 z13 z14
      obtain ⟨z0, z1, z2, z3, z4, z5, z6, z7, z8, z9, z10, z11, z12, z13, z14⟩ := hW'.cells
      refine wpSeg_want (by rw [← hops]; kernel_rfl) (fun K' hK => ?_)
      go_simp
      refine hK _ _ ?_
      clear hK K'
      (try simp only [Act.put, List.setIfInBounds_toArray, List.set_cons_zero, List.set_cons_succ])
      refine wpSeg_want (by rw [← hops]; kernel_rfl) (fun K' hK => ?_)
      go_simp
      refine hK _ _ ?_
      clear hK K'
      (try simp only [Act.put, List.setIfInBounds_toArray, List.set_cons_zero, List.set_cons_succ])
      refine wpSeg_want (by rw [← hops]; kernel_rfl) (fun K' hK => ?_)
      go_simp
      refine hK _ _ ?_
      clear hK K'
      (try simp only [Act.put, List.setIfInBounds_toArray, List.set_cons_zero, List.set_cons_succ])
      refine wpSeg_want (by rw [← hops]; kernel_rfl) (fun K' hK => ?_)
      go_simp
      refine (wkAsked hW').mono ?_
      rintro e Xa ⟨n1, rfl, hI1, hW', hb⟩
      dsimp only
      refine hK _ _ ?_
      clear hK K'
      (try simp only [Act.put, List.setIfInBounds_toArray, List.set_cons_zero, List.set_cons_succ])
      clear z0 z1 z2 z3 z4 z5 z6 z7 z8 z9 z10 z11 z12 z13 z14
      obtain ⟨z0, z1, z2, z3, z4, z5, z6, z7, z8, z9, z10, z11, z12, z13, z14⟩ := hW'.cells
      have hI2 := hI2.later hb
      exact T24 _ _ _ _ _ _ _ _ _ _ _ _ _ _ _ _ _ _ _ _ _ _ _ _ _ _ _ _ _ _ _ _ _ _ _ _ _ _ hW' hI1 hI2
    obtain ⟨lz, hlz⟩ : ∃ l, atL ops [19] = l := ⟨_, rfl⟩
    rw [hlz]
    rw [← hops] at hlz
    simp only [atL, List.filterMap_cons, List.filterMap_nil, List.getElem?_toArray, List.getElem?_cons_succ, List.getElem?_cons_zero] at hlz
    subst hlz
    refine wpSeg_want (by rw [← hops]; kernel_rfl) (fun K' hK => ?_)
    go_simp
    refine hK _ _ ?_
    clear hK K'
    (try simp only [Act.put, List.setIfInBounds_toArray, List.set_cons_zero, List.set_cons_succ])
    show wpAny _ _ _ _ _ _ _ _
    refine any_split (j := 20) (g := 23) (f1 := 51) (f2 := 48) (l1 := firstL 72 21) (l2 := firstL 72 24) [20, 21, 22] (by rw [← hops]; kernel_rfl) (by rw [← hops]; kernel_rfl) (by rfl) (by kernel_rfl) ?_ (by rfl) (by rw [← hops]; kernel_rfl) ?_
    rotate_left
    · obtain ⟨lz, hlz⟩ : ∃ l, atL ops [23, 20, 21, 22] = l := ⟨_, rfl⟩
      rw [hlz]
      rw [← hops] at hlz
      simp only [atL, List.filterMap_cons, List.filterMap_nil, List.getElem?_toArray, List.getElem?_cons_succ, List.getElem?_cons_zero] at hlz
      subst hlz
      refine wpSeg_want (by rw [← hops]; kernel_rfl) (fun K' hK => ?_)
      go_simp
      refine hK _ _ ?_
      clear hK K'
      (try simp only [Act.put, List.setIfInBounds_toArray, List.set_cons_zero, List.set_cons_succ])
      have hI2 := lit012 Xa
      have hW' := hW'.later (kept_new Xa (.cells #[.int .i64 0, .int .i64 1, .int .i64 2] 3))
      clear z0 z1 z2 z3 z4 z5 z6 z7 z8 z9 z10 z11 z12 z13 z14
      obtain ⟨z0, z1, z2, z3, z4, z5, z6, z7, z8, z9, z10, z11, z12, z13, z14⟩ := hW'.cells
      refine wpSeg_want (by rw [← hops]; kernel_rfl) (fun K' hK => ?_)
      go_simp
      refine hK _ _ ?_
      clear hK K'
      (try simp only [Act.put, List.setIfInBounds_toArray, List.set_cons_zero, List.set_cons_succ])
      refine wpSeg_want (by rw [← hops]; kernel_rfl) (fun K' hK => ?_)
      go_simp
      refine hK _ _ ?_
      clear hK K'
      (try simp only [Act.put, List.setIfInBounds_toArray, List.set_cons_zero, List.set_cons_succ])
      refine wpSeg_want (by rw [← hops]; kernel_rfl) (fun K' hK => ?_)
      go_simp
      refine (wkAsked hW').mono ?_
      rintro e Xa ⟨n1, rfl, hI1, hW', hb⟩
      dsimp only
      refine hK _ _ ?_
      clear hK K'
      (try simp only [Act.put, List.setIfInBounds_toArray, List.set_cons_zero, List.set_cons_succ])
      clear z0 z1 z2 z3 z4 z5 z6 z7 z8 z9 z10 z11 z12 z13 z14
      obtain ⟨z0, z1, z2, z3, z4, z5, z6, z7, z8, z9, z10, z11, z12, z13, z14⟩ := hW'.cells
      have hI2 := hI2.later hb
      exact T24 _ _ _ _ _ _ _ _ _ _ _ _ _ _ _ _ _ _ _ _ _ _ _ _ _ _ _ _ _ _ _ _ _ _ _ _ _ _ hW' hI1 hI2
    obtain ⟨lz, hlz⟩ : ∃ l, atL ops [20] = l := ⟨_, rfl⟩
    rw [hlz]
    rw [← hops] at hlz
    simp only [atL, List.filterMap_cons, List.filterMap_nil, List.getElem?_toArray, List.getElem?_cons_succ, List.getElem?_cons_zero] at hlz
    subst hlz
    refine wpSeg_want (by rw [← hops]; kernel_rfl) (fun K' hK => ?_)
    go_simp
    refine hK _ _ ?_
    clear hK K'
    (try simp only [Act.put, List.setIfInBounds_toArray, List.set_cons_zero, List.set_cons_succ])
    show wpAny _ _ _ _ _ _ _ _
    refine any_split (j := 21) (g := 23) (f1 := 50) (f2 := 48) (l1 := firstL 72 22) (l2 := firstL 72 24) [21, 22] (by rw [← hops]; kernel_rfl) (by rw [← hops]; kernel_rfl) (by rfl) (by kernel_rfl) ?_ (by rfl) (by rw [← hops]; kernel_rfl) ?_
    rotate_left
    · obtain ⟨lz, hlz⟩ : ∃ l, atL ops [23, 21, 22] = l := ⟨_, rfl⟩
      rw [hlz]
      rw [← hops] at hlz
      simp only [atL, List.filterMap_cons, List.filterMap_nil, List.getElem?_toArray, List.getElem?_cons_succ, List.getElem?_cons_zero] at hlz
      subst hlz
      refine wpSeg_want (by rw [← hops]; kernel_rfl) (fun K' hK => ?_)
      go_simp
      refine hK _ _ ?_
      clear hK K'
      (try simp only [Act.put, List.setIfInBounds_toArray, List.set_cons_zero, List.set_cons_succ])
      have hI2 := lit012 Xa
      have hW' := hW'.later (kept_new Xa (.cells #[.int .i64 0, .int .i64 1, .int .i64 2] 3))
      clear z0 z1 z2 z3 z4 z5 z6 z7 z8 z9 z10 z11 z12 z13 z14
      obtain ⟨z0, z1, z2, z3, z4, z5, z6, z7, z8, z9, z10, z11, z12, z13, z14⟩ := hW'.cells
      refine wpSeg_want (by rw [← hops]; kernel_rfl) (fun K' hK => ?_)
      go_simp
      refine hK _ _ ?_
      clear hK K'
      (try simp only [Act.put, List.setIfInBounds_toArray, List.set_cons_zero, List.set_cons_succ])
      refine wpSeg_want (by rw [← hops]; kernel_rfl) (fun K' hK => ?_)
      go_simp
      refine (wkAsked hW').mono ?_
      rintro e Xa ⟨n1, rfl, hI1, hW', hb⟩
      dsimp only
      refine hK _ _ ?_
      clear hK K'
      (try simp only [Act.put, List.setIfInBounds_toArray, List.set_cons_zero, List.set_cons_succ])
      clear z0 z1 z2 z3 z4 z5 z6 z7 z8 z9 z10 z11 z12 z13 z14
      obtain ⟨z0, z1, z2, z3, z4, z5, z6, z7, z8, z9, z10, z11, z12, z13, z14⟩ := hW'.cells
      have hI2 := hI2.later hb
      exact T24 _ _ _ _ _ _ _ _ _ _ _ _ _ _ _ _ _ _ _ _ _ _ _ _ _ _ _ _ _ _ _ _ _ _ _ _ _ _ hW' hI1 hI2
    obtain ⟨lz, hlz⟩ : ∃ l, atL ops [21] = l := ⟨_, rfl⟩
    rw [hlz]
    rw [← hops] at hlz
    simp only [atL, List.filterMap_cons, List.filterMap_nil, List.getElem?_toArray, List.getElem?_cons_succ, List.getElem?_cons_zero] at hlz
    subst hlz
    refine wpSeg_want (by rw [← hops]; kernel_rfl) (fun K' hK => ?_)
    go_simp
    refine hK _ _ ?_
    clear hK K'
    (try simp only [Act.put, List.setIfInBounds_toArray, List.set_cons_zero, List.set_cons_succ])
    show wpAny _ _ _ _ _ _ _ _
    refine any_split (j := 22) (g := 23) (f1 := 49) (f2 := 48) (l1 := firstL 72 23) (l2 := firstL 72 24) [22] (by rw [← hops]; kernel_rfl) (by rw [← hops]; kernel_rfl) (by rfl) (by kernel_rfl) ?_ (by rfl) (by rw [← hops]; kernel_rfl) ?_
    rotate_left
    · obtain ⟨lz, hlz⟩ : ∃ l, atL ops [23, 22] = l := ⟨_, rfl⟩
      rw [hlz]
      rw [← hops] at hlz
      simp only [atL, List.filterMap_cons, List.filterMap_nil, List.getElem?_toArray, List.getElem?_cons_succ, List.getElem?_cons_zero] at hlz
      subst hlz
      refine wpSeg_want (by rw [← hops]; kernel_rfl) (fun K' hK => ?_)
      go_simp
      refine hK _ _ ?_
      clear hK K'
      (try simp only [Act.put, List.setIfInBounds_toArray, List.set_cons_zero, List.set_cons_succ])
      have hI2 := lit012 Xa
      have hW' := hW'.later (kept_new Xa (.cells #[.int .i64 0, .int .i64 1, .int .i64 2] 3))
      clear z0 z1 z2 z3 z4 z5 z6 z7 z8 z9 z10 z11 z12 z13 z14
      obtain ⟨z0, z1, z2, z3, z4, z5, z6, z7, z8, z9, z10, z11, z12, z13, z14⟩ := hW'.cells
      refine wpSeg_want (by rw [← hops]; kernel_rfl) (fun K' hK => ?_)
      go_simp
      refine (wkAsked hW').mono ?_
      rintro e Xa ⟨n1, rfl, hI1, hW', hb⟩
      dsimp only
      refine hK _ _ ?_
      clear hK K'
      (try simp only [Act.put, List.setIfInBounds_toArray, List.set_cons_zero, List.set_cons_succ])
      clear z0 z1 z2 z3 z4 z5 z6 z7 z8 z9 z10 z11 z12 z13 z14
      obtain ⟨z0, z1, z2, z3, z4, z5, z6, z7, z8, z9, z10, z11, z12, z13, z14⟩ := hW'.cells
      have hI2 := hI2.later hb
      exact T24 _ _ _ _ _ _ _ _ _ _ _ _ _ _ _ _ _ _ _ _ _ _ _ _ _ _ _ _ _ _ _ _ _ _ _ _ _ _ hW' hI1 hI2
    obtain ⟨lz, hlz⟩ : ∃ l, atL ops [22] = l := ⟨_, rfl⟩
    rw [hlz]
    rw [← hops] at hlz
    simp only [atL, List.filterMap_cons, List.filterMap_nil, List.getElem?_toArray, List.getElem?_cons_succ, List.getElem?_cons_zero] at hlz
    subst hlz
    refine wpSeg_want (by rw [← hops]; kernel_rfl) (fun K' hK => ?_)
    go_simp
    refine (wkAsked hW').mono ?_
    rintro e Xa ⟨n1, rfl, hI1, hW', hb⟩
    dsimp only
    refine hK _ _ ?_
    clear hK K'
    (try simp only [Act.put, List.setIfInBounds_toArray, List.set_cons_zero, List.set_cons_succ])
    clear z0 z1 z2 z3 z4 z5 z6 z7 z8 z9 z10 z11 z12 z13 z14
    obtain ⟨z0, z1, z2, z3, z4, z5, z6, z7, z8, z9, z10, z11, z12, z13, z14⟩ := hW'.cells
    show wpAny _ _ _ _ _ _ _ _
    refine any_seg (fu := 48) (l2 := firstL 72 24) [23] (by rfl) (by rw [← hops]; kernel_rfl) ?_
    obtain ⟨lz, hlz⟩ : ∃ l, atL ops [23] = l := ⟨_, rfl⟩
    rw [hlz]
    rw [← hops] at hlz
    simp only [atL, List.filterMap_cons, List.filterMap_nil, List.getElem?_toArray, List.getElem?_cons_succ, List.getElem?_cons_zero] at hlz
    subst hlz
    refine wpSeg_want (by rw [← hops]; kernel_rfl) (fun K' hK => ?_)
    go_simp
    refine hK _ _ ?_
    clear hK K'
    (try simp only [Act.put, List.setIfInBounds_toArray, List.set_cons_zero, List.set_cons_succ])
    have hI2 := lit012 Xa
    have hI1 := hI1.later (kept_new Xa (.cells #[.int .i64 0, .int .i64 1, .int .i64 2] 3))
    have hW' := hW'.later (kept_new Xa (.cells #[.int .i64 0, .int .i64 1, .int .i64 2] 3))
    clear z0 z1 z2 z3 z4 z5 z6 z7 z8 z9 z10 z11 z12 z13 z14
    obtain ⟨z0, z1, z2, z3, z4, z5, z6, z7, z8, z9, z10, z11, z12, z13, z14⟩ := hW'.cells
    exact T24 _ _ _ _ _ _ _ _ _ _ _ _ _ _ _ _ _ _ _ _ _ _ _ _ _ _ _ _ _ _ _ _ _ _ _ _ _ _ hW' hI1 hI2
  have hsz : ops.size = 72 := by rw [← hops]; rfl
  rw [hsz]
  have hW4 := hW3.later (Below.refl _ _).drew
  change wpAny _ _ _ _ _ _ _ w3.drew
  generalize w3.drew = W4 at *
  have hW' := hW4
  obtain ⟨z0, z1, z2, z3, z4, z5, z6, z7, z8, z9, z10, z11, z12, z13, z14⟩ := hW4.cells
  rw [show Array.replicate 72 false = firstL 72 0 from by rfl]
  refine any_split (j := 0) (g := 9) (f1 := 71) (f2 := 62) (l1 := firstL 72 1) (l2 := firstL 72 10) [0, 1, 2, 3, 4, 5, 6, 7, 8] (by rw [← hops]; kernel_rfl) (by rw [← hops]; kernel_rfl) (by rfl) (by kernel_rfl) ?_ (by rfl) (by rw [← hops]; kernel_rfl) ?_
  rotate_left
  · obtain ⟨lz, hlz⟩ : ∃ l, atL ops [9, 0, 1, 2, 3, 4, 5, 6, 7, 8] = l := ⟨_, rfl⟩
    rw [hlz]
    rw [← hops] at hlz
    simp only [atL, List.filterMap_cons, List.filterMap_nil, List.getElem?_toArray, List.getElem?_cons_succ, List.getElem?_cons_zero] at hlz
    subst hlz
    refine wpSeg_want (by rfl) (fun K' hK => ?_)
    go_simp
    refine hK _ _ ?_
    clear hK K'
    (try simp only [Act.put, List.setIfInBounds_toArray, List.set_cons_zero, List.set_cons_succ])
    have hI2 := lit20 W4
    have hW' := hW'.later (kept_new W4 (.cells #[.int .i64 2, .int .i64 0] 3))
    clear z0 z1 z2 z3 z4 z5 z6 z7 z8 z9 z10 z11 z12 z13 z14
    obtain ⟨z0, z1, z2, z3, z4, z5, z6, z7, z8, z9, z10, z11, z12, z13, z14⟩ := hW'.cells
    refine wpSeg_want (by rfl) (fun K' hK => ?_)
    go_simp
    refine hK _ _ ?_
    clear hK K'
    (try simp only [Act.put, List.setIfInBounds_toArray, List.set_cons_zero, List.set_cons_succ])
    refine wpSeg_want (by rfl) (fun K' hK => ?_)
    go_simp
    refine hK _ _ ?_
    clear hK K'
    (try simp only [Act.put, List.setIfInBounds_toArray, List.set_cons_zero, List.set_cons_succ])
    refine wpSeg_want (by rfl) (fun K' hK => ?_)
    go_simp
    refine hK _ _ ?_
    clear hK K'
    (try simp only [Act.put, List.setIfInBounds_toArray, List.set_cons_zero, List.set_cons_succ])
    refine wpSeg_want (by rfl) (fun K' hK => ?_)
    go_simp
    refine hK _ _ ?_
    clear hK K'
    (try simp only [Act.put, List.setIfInBounds_toArray, List.set_cons_zero, List.set_cons_succ])
    refine wpSeg_want (by rfl) (fun K' hK => ?_)
    go_simp
    refine hK _ _ ?_
    clear hK K'
    (try simp only [Act.put, List.setIfInBounds_toArray, List.set_cons_zero, List.set_cons_succ])
    refine wpSeg_want (by rfl) (fun K' hK => ?_)
    go_simp
    refine hK _ _ ?_
    clear hK K'
    (try simp only [Act.put, List.setIfInBounds_toArray, List.set_cons_zero, List.set_cons_succ])
    refine wpSeg_want (by rfl) (fun K' hK => ?_)
    go_simp
    refine hK _ _ ?_
    clear hK K'
    (try simp only [Act.put, List.setIfInBounds_toArray, List.set_cons_zero, List.set_cons_succ])
    refine wpSeg_want (by rfl) (fun K' hK => ?_)
    go_simp
    refine hK _ _ ?_
    clear hK K'
    (try simp only [Act.put, List.setIfInBounds_toArray, List.set_cons_zero, List.set_cons_succ])
    refine wpSeg_want (by rfl) (fun K' hK => ?_)
    go_simp
    refine (wkNames1 hW').mono ?_
    rintro e Xa ⟨n1, rfl, hI1, hW', hb⟩
    dsimp only
    refine hK _ _ ?_
    clear hK K'
    (try simp only [Act.put, List.setIfInBounds_toArray, List.set_cons_zero, List.set_cons_succ])
    clear z0 z1 z2 z3 z4 z5 z6 z7 z8 z9 z10 z11 z12 z13 z14
    obtain ⟨z0, z1, z2, z3, z4, z5, z6, z7, z8, z9, z10, z11, z12, z13, z14⟩ := hW'.cells
    have hI2 := hI2.later hb
    exact T10 _ _ _ _ _ _ _ _ _ _ _ _ _ _ _ _ _ _ _ _ _ _ _ _ _ hW' hI1 hI2
  obtain ⟨lz, hlz⟩ : ∃ l, atL ops [0] = l := ⟨_, rfl⟩
  rw [hlz]
  rw [← hops] at hlz
  simp only [atL, List.filterMap_cons, List.filterMap_nil, List.getElem?_toArray, List.getElem?_cons_succ, List.getElem?_cons_zero] at hlz
  subst hlz
  refine wpSeg_want (by rfl) (fun K' hK => ?_)
  go_simp
  refine hK _ _ ?_
  clear hK K'
  (try simp only [Act.put, List.setIfInBounds_toArray, List.set_cons_zero, List.set_cons_succ])
  show wpAny _ _ _ _ _ _ _ _
  refine any_split (j := 1) (g := 9) (f1 := 70) (f2 := 62) (l1 := firstL 72 2) (l2 := firstL 72 10) [1, 2, 3, 4, 5, 6, 7, 8] (by rw [← hops]; kernel_rfl) (by rw [← hops]; kernel_rfl) (by rfl) (by kernel_rfl) ?_ (by rfl) (by rw [← hops]; kernel_rfl) ?_
  rotate_left
  · obtain ⟨lz, hlz⟩ : ∃ l, atL ops [9, 1, 2, 3, 4, 5, 6, 7, 8] = l := ⟨_, rfl⟩
    rw [hlz]
    rw [← hops] at hlz
    simp only [atL, List.filterMap_cons, List.filterMap_nil, List.getElem?_toArray, List.getElem?_cons_succ, List.getElem?_cons_zero] at hlz
    subst hlz
    refine wpSeg_want (by rfl) (fun K' hK => ?_)
    go_simp
    refine hK _ _ ?_
    clear hK K'
    (try simp only [Act.put, List.setIfInBounds_toArray, List.set_cons_zero, List.set_cons_succ])
    have hI2 := lit20 W4
    have hW' := hW'.later (kept_new W4 (.cells #[.int .i64 2, .int .i64 0] 3))
    clear z0 z1 z2 z3 z4 z5 z6 z7 z8 z9 z10 z11 z12 z13 z14
    obtain ⟨z0, z1, z2, z3, z4, z5, z6, z7, z8, z9, z10, z11, z12, z13, z14⟩ := hW'.cells
    refine wpSeg_want (by rfl) (fun K' hK => ?_)
    go_simp
    refine hK _ _ ?_
    clear hK K'
    (try simp only [Act.put, List.setIfInBounds_toArray, List.set_cons_zero, List.set_cons_succ])
    refine wpSeg_want (by rfl) (fun K' hK => ?_)
    go_simp
    refine hK _ _ ?_
    clear hK K'
    (try simp only [Act.put, List.setIfInBounds_toArray, List.set_cons_zero, List.set_cons_succ])
    refine wpSeg_want (by rfl) (fun K' hK => ?_)
    go_simp
    refine hK _ _ ?_
    clear hK K'
    (try simp only [Act.put, List.setIfInBounds_toArray, List.set_cons_zero, List.set_cons_succ])
    refine wpSeg_want (by rfl) (fun K' hK => ?_)
    go_simp
    refine hK _ _ ?_
    clear hK K'
    (try simp only [Act.put, List.setIfInBounds_toArray, List.set_cons_zero, List.set_cons_succ])
    refine wpSeg_want (by rfl) (fun K' hK => ?_)
    go_simp
    refine hK _ _ ?_
    clear hK K'
    (try simp only [Act.put, List.setIfInBounds_toArray, List.set_cons_zero, List.set_cons_succ])
    refine wpSeg_want (by rfl) (fun K' hK => ?_)
    go_simp
    refine hK _ _ ?_
    clear hK K'
    (try simp only [Act.put, List.setIfInBounds_toArray, List.set_cons_zero, List.set_cons_succ])
    refine wpSeg_want (by rfl) (fun K' hK => ?_)
    go_simp
    refine hK _ _ ?_
    clear hK K'
    (try simp only [Act.put, List.setIfInBounds_toArray, List.set_cons_zero, List.set_cons_succ])
    refine wpSeg_want (by rfl) (fun K' hK => ?_)
    go_simp
    refine (wkNames1 hW').mono ?_
    rintro e Xa ⟨n1, rfl, hI1, hW', hb⟩
    dsimp only
    refine hK _ _ ?_
    clear hK K'
    (try simp only [Act.put, List.setIfInBounds_toArray, List.set_cons_zero, List.set_cons_succ])
    clear z0 z1 z2 z3 z4 z5 z6 z7 z8 z9 z10 z11 z12 z13 z14
    obtain ⟨z0, z1, z2, z3, z4, z5, z6, z7, z8, z9, z10, z11, z12, z13, z14⟩ := hW'.cells
    have hI2 := hI2.later hb
    exact T10 _ _ _ _ _ _ _ _ _ _ _ _ _ _ _ _ _ _ _ _ _ _ _ _ _ hW' hI1 hI2
  obtain ⟨lz, hlz⟩ : ∃ l, atL ops [1] = l := ⟨_, rfl⟩
  rw [hlz]
  rw [← hops] at hlz
  simp only [atL, List.filterMap_cons, List.filterMap_nil, List.getElem?_toArray, List.getElem?_cons_succ, List.getElem?_cons_zero] at hlz
  subst hlz
  refine wpSeg_want (by rfl) (fun K' hK => ?_)
  go_simp
  refine hK _ _ ?_
  clear hK K'
  (try simp only [Act.put, List.setIfInBounds_toArray, List.set_cons_zero, List.set_cons_succ])
  show wpAny _ _ _ _ _ _ _ _
  refine any_split (j := 2) (g := 9) (f1 := 69) (f2 := 62) (l1 := firstL 72 3) (l2 := firstL 72 10) [2, 3, 4, 5, 6, 7, 8] (by rw [← hops]; kernel_rfl) (by rw [← hops]; kernel_rfl) (by rfl) (by kernel_rfl) ?_ (by rfl) (by rw [← hops]; kernel_rfl) ?_
  rotate_left
  · obtain ⟨lz, hlz⟩ : ∃ l, atL ops [9, 2, 3, 4, 5, 6, 7, 8] = l := ⟨_, rfl⟩
    rw [hlz]
    rw [← hops] at hlz
    simp only [atL, List.filterMap_cons, List.filterMap_nil, List.getElem?_toArray, List.getElem?_cons_succ, List.getElem?_cons_zero] at hlz
    subst hlz
    refine wpSeg_want (by rfl) (fun K' hK => ?_)
    go_simp
    refine hK _ _ ?_
    clear hK K'
    (try simp only [Act.put, List.setIfInBounds_toArray, List.set_cons_zero, List.set_cons_succ])
    have hI2 := lit20 W4
    have hW' := hW'.later (kept_new W4 (.cells #[.int .i64 2, .int .i64 0] 3))
    clear z0 z1 z2 z3 z4 z5 z6 z7 z8 z9 z10 z11 z12 z13 z14
    obtain ⟨z0, z1, z2, z3, z4, z5, z6, z7, z8, z9, z10, z11, z12, z13, z14⟩ := hW'.cells
    refine wpSeg_want (by rfl) (fun K' hK => ?_)
    go_simp
    refine hK _ _ ?_
    clear hK K'
    (try simp only [Act.put, List.setIfInBounds_toArray, List.set_cons_zero, List.set_cons_succ])
    refine wpSeg_want (by rfl) (fun K' hK => ?_)
    go_simp
    refine hK _ _ ?_
    clear hK K'
    (try simp only [Act.put, List.setIfInBounds_toArray, List.set_cons_zero, List.set_cons_succ])
    refine wpSeg_want (by rfl) (fun K' hK => ?_)
    go_simp
    refine hK _ _ ?_
    clear hK K'
    (try simp only [Act.put, List.setIfInBounds_toArray, List.set_cons_zero, List.set_cons_succ])
    refine wpSeg_want (by rfl) (fun K' hK => ?_)
    go_simp
    refine hK _ _ ?_
    clear hK K'
    (try simp only [Act.put, List.setIfInBounds_toArray, List.set_cons_zero, List.set_cons_succ])
    refine wpSeg_want (by rfl) (fun K' hK => ?_)
    go_simp
    refine hK _ _ ?_
    clear hK K'
    (try simp only [Act.put, List.setIfInBounds_toArray, List.set_cons_zero, List.set_cons_succ])
    refine wpSeg_want (by rfl) (fun K' hK => ?_)
    go_simp
    refine hK _ _ ?_
    clear hK K'
    (try simp only [Act.put, List.setIfInBounds_toArray, List.set_cons_zero, List.set_cons_succ])
    refine wpSeg_want (by rfl) (fun K' hK => ?_)
    go_simp
    refine (wkNames1 hW').mono ?_
    rintro e Xa ⟨n1, rfl, hI1, hW', hb⟩
    dsimp only
    refine hK _ _ ?_
    clear hK K'
    (try simp only [Act.put, List.setIfInBounds_toArray, List.set_cons_zero, List.set_cons_succ])
    clear z0 z1 z2 z3 z4 z5 z6 z7 z8 z9 z10 z11 z12 z13 z14
    obtain ⟨z0, z1, z2, z3, z4, z5, z6, z7, z8, z9, z10, z11, z12, z13, z14⟩ := hW'.cells
    have hI2 := hI2.later hb
    exact T10 _ _ _ _ _ _ _ _ _ _ _ _ _ _ _ _ _ _ _ _ _ _ _ _ _ hW' hI1 hI2
  obtain ⟨lz, hlz⟩ : ∃ l, atL ops [2] = l := ⟨_, rfl⟩
  rw [hlz]
  rw [← hops] at hlz
  simp only [atL, List.filterMap_cons, List.filterMap_nil, List.getElem?_toArray, List.getElem?_cons_succ, List.getElem?_cons_zero] at hlz
  subst hlz
  refine wpSeg_want (by rfl) (fun K' hK => ?_)
  go_simp
  refine hK _ _ ?_
  clear hK K'
  (try simp only [Act.put, List.setIfInBounds_toArray, List.set_cons_zero, List.set_cons_succ])
  show wpAny _ _ _ _ _ _ _ _
  refine any_split (j := 3) (g := 9) (f1 := 68) (f2 := 62) (l1 := firstL 72 4) (l2 := firstL 72 10) [3, 4, 5, 6, 7, 8] (by rw [← hops]; kernel_rfl) (by rw [← hops]; kernel_rfl) (by rfl) (by kernel_rfl) ?_ (by rfl) (by rw [← hops]; kernel_rfl) ?_
  rotate_left
  · obtain ⟨lz, hlz⟩ : ∃ l, atL ops [9, 3, 4, 5, 6, 7, 8] = l := ⟨_, rfl⟩
    rw [hlz]
    rw [← hops] at hlz
    simp only [atL, List.filterMap_cons, List.filterMap_nil, List.getElem?_toArray, List.getElem?_cons_succ, List.getElem?_cons_zero] at hlz
    subst hlz
    refine wpSeg_want (by rfl) (fun K' hK => ?_)
    go_simp
    refine hK _ _ ?_
    clear hK K'
    (try simp only [Act.put, List.setIfInBounds_toArray, List.set_cons_zero, List.set_cons_succ])
    have hI2 := lit20 W4
    have hW' := hW'.later (kept_new W4 (.cells #[.int .i64 2, .int .i64 0] 3))
    clear z0 z1 z2 z3 z4 z5 z6 z7 z8 z9 z10 z11 z12 z13 z14
    obtain ⟨z0, z1, z2, z3, z4, z5, z6, z7, z8, z9, z10, z11, z12, z13, z14⟩ := hW'.cells
    refine wpSeg_want (by rfl) (fun K' hK => ?_)
    go_simp
    refine hK _ _ ?_
    clear hK K'
    (try simp only [Act.put, List.setIfInBounds_toArray, List.set_cons_zero, List.set_cons_succ])
    refine wpSeg_want (by rfl) (fun K' hK => ?_)
    go_simp
    refine hK _ _ ?_
    clear hK K'
    (try simp only [Act.put, List.setIfInBounds_toArray, List.set_cons_zero, List.set_cons_succ])
    refine wpSeg_want (by rfl) (fun K' hK => ?_)
    go_simp
    refine hK _ _ ?_
    clear hK K'
    (try simp only [Act.put, List.setIfInBounds_toArray, List.set_cons_zero, List.set_cons_succ])
    refine wpSeg_want (by rfl) (fun K' hK => ?_)
    go_simp
    refine hK _ _ ?_
    clear hK K'
    (try simp only [Act.put, List.setIfInBounds_toArray, List.set_cons_zero, List.set_cons_succ])
    refine wpSeg_want (by rfl) (fun K' hK => ?_)
    go_simp
    refine hK _ _ ?_
    clear hK K'
    (try simp only [Act.put, List.setIfInBounds_toArray, List.set_cons_zero, List.set_cons_succ])
    refine wpSeg_want (by rfl) (fun K' hK => ?_)
    go_simp
    refine (wkNames1 hW').mono ?_
    rintro e Xa ⟨n1, rfl, hI1, hW', hb⟩
    dsimp only
    refine hK _ _ ?_
    clear hK K'
    (try simp only [Act.put, List.setIfInBounds_toArray, List.set_cons_zero, List.set_cons_succ])
    clear z0 z1 z2 z3 z4 z5 z6 z7 z8 z9 z10 z11 z12 z13 z14
    obtain ⟨z0, z1, z2, z3, z4, z5, z6, z7, z8, z9, z10, z11, z12, z13, z14⟩ := hW'.cells
    have hI2 := hI2.later hb
    exact T10 _ _ _ _ _ _ _ _ _ _ _ _ _ _ _ _ _ _ _ _ _ _ _ _ _ hW' hI1 hI2
  obtain ⟨lz, hlz⟩ : ∃ l, atL ops [3] = l := ⟨_, rfl⟩
  rw [hlz]
  rw [← hops] at hlz
  simp only [atL, List.filterMap_cons, List.filterMap_nil, List.getElem?_toArray, List.getElem?_cons_succ, List.getElem?_cons_zero] at hlz
  subst hlz
  refine wpSeg_want (by rfl) (fun K' hK => ?_)
  go_simp
  refine hK _ _ ?_
  clear hK K'
  (try simp only [Act.put, List.setIfInBounds_toArray, List.set_cons_zero, List.set_cons_succ])
  show wpAny _ _ _ _ _ _ _ _
  refine any_split (j := 4) (g := 9) (f1 := 67) (f2 := 62) (l1 := firstL 72 5) (l2 := firstL 72 10) [4, 5, 6, 7, 8] (by rw [← hops]; kernel_rfl) (by rw [← hops]; kernel_rfl) (by rfl) (by kernel_rfl) ?_ (by rfl) (by rw [← hops]; kernel_rfl) ?_
  rotate_left
  · obtain ⟨lz, hlz⟩ : ∃ l, atL ops [9, 4, 5, 6, 7, 8] = l := ⟨_, rfl⟩
    rw [hlz]
    rw [← hops] at hlz
    simp only [atL, List.filterMap_cons, List.filterMap_nil, List.getElem?_toArray, List.getElem?_cons_succ, List.getElem?_cons_zero] at hlz
    subst hlz
    refine wpSeg_want (by rfl) (fun K' hK => ?_)
    go_simp
    refine hK _ _ ?_
    clear hK K'
    (try simp only [Act.put, List.setIfInBounds_toArray, List.set_cons_zero, List.set_cons_succ])
    have hI2 := lit20 W4
    have hW' := hW'.later (kept_new W4 (.cells #[.int .i64 2, .int .i64 0] 3))
    clear z0 z1 z2 z3 z4 z5 z6 z7 z8 z9 z10 z11 z12 z13 z14
    obtain ⟨z0, z1, z2, z3, z4, z5, z6, z7, z8, z9, z10, z11, z12, z13, z14⟩ := hW'.cells
    refine wpSeg_want (by rfl) (fun K' hK => ?_)
    go_simp
    refine hK _ _ ?_
    clear hK K'
    (try simp only [Act.put, List.setIfInBounds_toArray, List.set_cons_zero, List.set_cons_succ])
    refine wpSeg_want (by rfl) (fun K' hK => ?_)
    go_simp
    refine hK _ _ ?_
    clear hK K'
    (try simp only [Act.put, List.setIfInBounds_toArray, List.set_cons_zero, List.set_cons_succ])
    refine wpSeg_want (by rfl) (fun K' hK => ?_)
    go_simp
    refine hK _ _ ?_
    clear hK K'
    (try simp only [Act.put, List.setIfInBounds_toArray, List.set_cons_zero, List.set_cons_succ])
    refine wpSeg_want (by rfl) (fun K' hK => ?_)
    go_simp
    refine hK _ _ ?_
    clear hK K'
    (try simp only [Act.put, List.setIfInBounds_toArray, List.set_cons_zero, List.set_cons_succ])
    refine wpSeg_want (by rfl) (fun K' hK => ?_)
    go_simp
    refine (wkNames1 hW').mono ?_
    rintro e Xa ⟨n1, rfl, hI1, hW', hb⟩
    dsimp only
    refine hK _ _ ?_
    clear hK K'
    (try simp only [Act.put, List.setIfInBounds_toArray, List.set_cons_zero, List.set_cons_succ])
    clear z0 z1 z2 z3 z4 z5 z6 z7 z8 z9 z10 z11 z12 z13 z14
    obtain ⟨z0, z1, z2, z3, z4, z5, z6, z7, z8, z9, z10, z11, z12, z13, z14⟩ := hW'.cells
    have hI2 := hI2.later hb
    exact T10 _ _ _ _ _ _ _ _ _ _ _ _ _ _ _ _ _ _ _ _ _ _ _ _ _ hW' hI1 hI2
  obtain ⟨lz, hlz⟩ : ∃ l, atL ops [4] = l := ⟨_, rfl⟩
  rw [hlz]
  rw [← hops] at hlz
  simp only [atL, List.filterMap_cons, List.filterMap_nil, List.getElem?_toArray, List.getElem?_cons_succ, List.getElem?_cons_zero] at hlz
  subst hlz
  refine wpSeg_want (by rfl) (fun K' hK => ?_)
  go_simp
  refine hK _ _ ?_
  clear hK K'
  (try simp only [Act.put, List.setIfInBounds_toArray, List.set_cons_zero, List.set_cons_succ])
  show wpAny _ _ _ _ _ _ _ _
  refine any_split (j := 5) (g := 9) (f1 := 66) (f2 := 62) (l1 := firstL 72 6) (l2 := firstL 72 10) [5, 6, 7, 8] (by rw [← hops]; kernel_rfl) (by rw [← hops]; kernel_rfl) (by rfl) (by kernel_rfl) ?_ (by rfl) (by rw [← hops]; kernel_rfl) ?_
  rotate_left
  · obtain ⟨lz, hlz⟩ : ∃ l, atL ops [9, 5, 6, 7, 8] = l := ⟨_, rfl⟩
    rw [hlz]
    rw [← hops] at hlz
    simp only [atL, List.filterMap_cons, List.filterMap_nil, List.getElem?_toArray, List.getElem?_cons_succ, List.getElem?_cons_zero] at hlz
    subst hlz
    refine wpSeg_want (by rfl) (fun K' hK => ?_)
    go_simp
    refine hK _ _ ?_
    clear hK K'
    (try simp only [Act.put, List.setIfInBounds_toArray, List.set_cons_zero, List.set_cons_succ])
    have hI2 := lit20 W4
    have hW' := hW'.later (kept_new W4 (.cells #[.int .i64 2, .int .i64 0] 3))
    clear z0 z1 z2 z3 z4 z5 z6 z7 z8 z9 z10 z11 z12 z13 z14
    obtain ⟨z0, z1, z2, z3, z4, z5, z6, z7, z8, z9, z10, z11, z12, z13, z14⟩ := hW'.cells
    refine wpSeg_want (by rfl) (fun K' hK => ?_)
    go_simp
    refine hK _ _ ?_
    clear hK K'
    (try simp only [Act.put, List.setIfInBounds_toArray, List.set_cons_zero, List.set_cons_succ])
    refine wpSeg_want (by rfl) (fun K' hK => ?_)
    go_simp
    refine hK _ _ ?_
    clear hK K'
    (try simp only [Act.put, List.setIfInBounds_toArray, List.set_cons_zero, List.set_cons_succ])
    refine wpSeg_want (by rfl) (fun K' hK => ?_)
    go_simp
    refine hK _ _ ?_
    clear hK K'
    (try simp only [Act.put, List.setIfInBounds_toArray, List.set_cons_zero, List.set_cons_succ])
    refine wpSeg_want (by rfl) (fun K' hK => ?_)
    go_simp
    refine (wkNames1 hW').mono ?_
    rintro e Xa ⟨n1, rfl, hI1, hW', hb⟩
    dsimp only
    refine hK _ _ ?_
    clear hK K'
    (try simp only [Act.put, List.setIfInBounds_toArray, List.set_cons_zero, List.set_cons_succ])
    clear z0 z1 z2 z3 z4 z5 z6 z7 z8 z9 z10 z11 z12 z13 z14
    obtain ⟨z0, z1, z2, z3, z4, z5, z6, z7, z8, z9, z10, z11, z12, z13, z14⟩ := hW'.cells
    have hI2 := hI2.later hb
    exact T10 _ _ _ _ _ _ _ _ _ _ _ _ _ _ _ _ _ _ _ _ _ _ _ _ _ hW' hI1 hI2
  obtain ⟨lz, hlz⟩ : ∃ l, atL ops [5] = l := ⟨_, rfl⟩
  rw [hlz]
  rw [← hops] at hlz
  simp only [atL, List.filterMap_cons, List.filterMap_nil, List.getElem?_toArray, List.getElem?_cons_succ, List.getElem?_cons_zero] at hlz
  subst hlz
  refine wpSeg_want (by rfl) (fun K' hK => ?_)
  go_simp
  refine hK _ _ ?_
  clear hK K'
  (try simp only [Act.put, List.setIfInBounds_toArray, List.set_cons_zero, List.set_cons_succ])
  show wpAny _ _ _ _ _ _ _ _
  refine any_split (j := 6) (g := 9) (f1 := 65) (f2 := 62) (l1 := firstL 72 7) (l2 := firstL 72 10) [6, 7, 8] (by rw [← hops]; kernel_rfl) (by rw [← hops]; kernel_rfl) (by rfl) (by kernel_rfl) ?_ (by rfl) (by rw [← hops]; kernel_rfl) ?_
  rotate_left
  · obtain ⟨lz, hlz⟩ : ∃ l, atL ops [9, 6, 7, 8] = l := ⟨_, rfl⟩
    rw [hlz]
    rw [← hops] at hlz
    simp only [atL, List.filterMap_cons, List.filterMap_nil, List.getElem?_toArray, List.getElem?_cons_succ, List.getElem?_cons_zero] at hlz
    subst hlz
    refine wpSeg_want (by rfl) (fun K' hK => ?_)
    go_simp
    refine hK _ _ ?_
    clear hK K'
    (try simp only [Act.put, List.setIfInBounds_toArray, List.set_cons_zero, List.set_cons_succ])
    have hI2 := lit20 W4
    have hW' := hW'.later (kept_new W4 (.cells #[.int .i64 2, .int .i64 0] 3))
    clear z0 z1 z2 z3 z4 z5 z6 z7 z8 z9 z10 z11 z12 z13 z14
    obtain ⟨z0, z1, z2, z3, z4, z5, z6, z7, z8, z9, z10, z11, z12, z13, z14⟩ := hW'.cells
    refine wpSeg_want (by rfl) (fun K' hK => ?_)
    go_simp
    refine hK _ _ ?_
    clear hK K'
    (try simp only [Act.put, List.setIfInBounds_toArray, List.set_cons_zero, List.set_cons_succ])
    refine wpSeg_want (by rfl) (fun K' hK => ?_)
    go_simp
    refine hK _ _ ?_
    clear hK K'
    (try simp only [Act.put, List.setIfInBounds_toArray, List.set_cons_zero, List.set_cons_succ])
    refine wpSeg_want (by rfl) (fun K' hK => ?_)
    go_simp
    refine (wkNames1 hW').mono ?_
    rintro e Xa ⟨n1, rfl, hI1, hW', hb⟩
    dsimp only
    refine hK _ _ ?_
    clear hK K'
    (try simp only [Act.put, List.setIfInBounds_toArray, List.set_cons_zero, List.set_cons_succ])
    clear z0 z1 z2 z3 z4 z5 z6 z7 z8 z9 z10 z11 z12 z13 z14
    obtain ⟨z0, z1, z2, z3, z4, z5, z6, z7, z8, z9, z10, z11, z12, z13, z14⟩ := hW'.cells
    have hI2 := hI2.later hb
    exact T10 _ _ _ _ _ _ _ _ _ _ _ _ _ _ _ _ _ _ _ _ _ _ _ _ _ hW' hI1 hI2
  obtain ⟨lz, hlz⟩ : ∃ l, atL ops [6] = l := ⟨_, rfl⟩
  rw [hlz]
  rw [← hops] at hlz
  simp only [atL, List.filterMap_cons, List.filterMap_nil, List.getElem?_toArray, List.getElem?_cons_succ, List.getElem?_cons_zero] at hlz
  subst hlz
  refine wpSeg_want (by rfl) (fun K' hK => ?_)
  go_simp
  refine hK _ _ ?_
  clear hK K'
  (try simp only [Act.put, List.setIfInBounds_toArray, List.set_cons_zero, List.set_cons_succ])
  show wpAny _ _ _ _ _ _ _ _
  refine any_split (j := 7) (g := 9) (f1 := 64) (f2 := 62) (l1 := firstL 72 8) (l2 := firstL 72 10) [7, 8] (by rw [← hops]; kernel_rfl) (by rw [← hops]; kernel_rfl) (by rfl) (by kernel_rfl) ?_ (by rfl) (by rw [← hops]; kernel_rfl) ?_
  rotate_left
  · obtain ⟨lz, hlz⟩ : ∃ l, atL ops [9, 7, 8] = l := ⟨_, rfl⟩
    rw [hlz]
    rw [← hops] at hlz
    simp only [atL, List.filterMap_cons, List.filterMap_nil, List.getElem?_toArray, List.getElem?_cons_succ, List.getElem?_cons_zero] at hlz
    subst hlz
    refine wpSeg_want (by rfl) (fun K' hK => ?_)
    go_simp
    refine hK _ _ ?_
    clear hK K'
    (try simp only [Act.put, List.setIfInBounds_toArray, List.set_cons_zero, List.set_cons_succ])
    have hI2 := lit20 W4
    have hW' := hW'.later (kept_new W4 (.cells #[.int .i64 2, .int .i64 0] 3))
    clear z0 z1 z2 z3 z4 z5 z6 z7 z8 z9 z10 z11 z12 z13 z14
    obtain ⟨z0, z1, z2, z3, z4, z5, z6, z7, z8, z9, z10, z11, z12, z13, z14⟩ := hW'.cells
    refine wpSeg_want (by rfl) (fun K' hK => ?_)
    go_simp
    refine hK _ _ ?_
    clear hK K'
    (try simp only [Act.put, List.setIfInBounds_toArray, List.set_cons_zero, List.set_cons_succ])
    refine wpSeg_want (by rfl) (fun K' hK => ?_)
    go_simp
    refine (wkNames1 hW').mono ?_
    rintro e Xa ⟨n1, rfl, hI1, hW', hb⟩
    dsimp only
    refine hK _ _ ?_
    clear hK K'
    (try simp only [Act.put, List.setIfInBounds_toArray, List.set_cons_zero, List.set_cons_succ])
    clear z0 z1 z2 z3 z4 z5 z6 z7 z8 z9 z10 z11 z12 z13 z14
    obtain ⟨z0, z1, z2, z3, z4, z5, z6, z7, z8, z9, z10, z11, z12, z13, z14⟩ := hW'.cells
    have hI2 := hI2.later hb
    exact T10 _ _ _ _ _ _ _ _ _ _ _ _ _ _ _ _ _ _ _ _ _ _ _ _ _ hW' hI1 hI2
  obtain ⟨lz, hlz⟩ : ∃ l, atL ops [7] = l := ⟨_, rfl⟩
  rw [hlz]
  rw [← hops] at hlz
  simp only [atL, List.filterMap_cons, List.filterMap_nil, List.getElem?_toArray, List.getElem?_cons_succ, List.getElem?_cons_zero] at hlz
  subst hlz
  refine wpSeg_want (by rfl) (fun K' hK => ?_)
  go_simp
  refine hK _ _ ?_
  clear hK K'
  (try simp only [Act.put, List.setIfInBounds_toArray, List.set_cons_zero, List.set_cons_succ])
  show wpAny _ _ _ _ _ _ _ _
  refine any_split (j := 8) (g := 9) (f1 := 63) (f2 := 62) (l1 := firstL 72 9) (l2 := firstL 72 10) [8] (by rw [← hops]; kernel_rfl) (by rw [← hops]; kernel_rfl) (by rfl) (by kernel_rfl) ?_ (by rfl) (by rw [← hops]; kernel_rfl) ?_
  rotate_left
  · obtain ⟨lz, hlz⟩ : ∃ l, atL ops [9, 8] = l := ⟨_, rfl⟩
    rw [hlz]
    rw [← hops] at hlz
    simp only [atL, List.filterMap_cons, List.filterMap_nil, List.getElem?_toArray, List.getElem?_cons_succ, List.getElem?_cons_zero] at hlz
    subst hlz
    refine wpSeg_want (by rfl) (fun K' hK => ?_)
    go_simp
    refine hK _ _ ?_
    clear hK K'
    (try simp only [Act.put, List.setIfInBounds_toArray, List.set_cons_zero, List.set_cons_succ])
    have hI2 := lit20 W4
    have hW' := hW'.later (kept_new W4 (.cells #[.int .i64 2, .int .i64 0] 3))
    clear z0 z1 z2 z3 z4 z5 z6 z7 z8 z9 z10 z11 z12 z13 z14
    obtain ⟨z0, z1, z2, z3, z4, z5, z6, z7, z8, z9, z10, z11, z12, z13, z14⟩ := hW'.cells
    refine wpSeg_want (by rfl) (fun K' hK => ?_)
    go_simp
    refine (wkNames1 hW').mono ?_
    rintro e Xa ⟨n1, rfl, hI1, hW', hb⟩
    dsimp only
    refine hK _ _ ?_
    clear hK K'
    (try simp only [Act.put, List.setIfInBounds_toArray, List.set_cons_zero, List.set_cons_succ])
    clear z0 z1 z2 z3 z4 z5 z6 z7 z8 z9 z10 z11 z12 z13 z14
    obtain ⟨z0, z1, z2, z3, z4, z5, z6, z7, z8, z9, z10, z11, z12, z13, z14⟩ := hW'.cells
    have hI2 := hI2.later hb
    exact T10 _ _ _ _ _ _ _ _ _ _ _ _ _ _ _ _ _ _ _ _ _ _ _ _ _ hW' hI1 hI2
  obtain ⟨lz, hlz⟩ : ∃ l, atL ops [8] = l := ⟨_, rfl⟩
  rw [hlz]
  rw [← hops] at hlz
  simp only [atL, List.filterMap_cons, List.filterMap_nil, List.getElem?_toArray, List.getElem?_cons_succ, List.getElem?_cons_zero] at hlz
  subst hlz
  refine wpSeg_want (by rfl) (fun K' hK => ?_)
  go_simp
  refine (wkNames1 hW').mono ?_
  rintro e Xa ⟨n1, rfl, hI1, hW', hb⟩
  dsimp only
  refine hK _ _ ?_
  clear hK K'
  (try simp only [Act.put, List.setIfInBounds_toArray, List.set_cons_zero, List.set_cons_succ])
  clear z0 z1 z2 z3 z4 z5 z6 z7 z8 z9 z10 z11 z12 z13 z14
  obtain ⟨z0, z1, z2, z3, z4, z5, z6, z7, z8, z9, z10, z11, z12, z13, z14⟩ := hW'.cells
  show wpAny _ _ _ _ _ _ _ _
  refine any_seg (fu := 62) (l2 := firstL 72 10) [9] (by rfl) (by rw [← hops]; kernel_rfl) ?_
  obtain ⟨lz, hlz⟩ : ∃ l, atL ops [9] = l := ⟨_, rfl⟩
  rw [hlz]
  rw [← hops] at hlz
  simp only [atL, List.filterMap_cons, List.filterMap_nil, List.getElem?_toArray, List.getElem?_cons_succ, List.getElem?_cons_zero] at hlz
  subst hlz
  refine wpSeg_want (by rfl) (fun K' hK => ?_)
  go_simp
  refine hK _ _ ?_
  clear hK K'
  (try simp only [Act.put, List.setIfInBounds_toArray, List.set_cons_zero, List.set_cons_succ])
  have hI2 := lit20 Xa
  have hI1 := hI1.later (kept_new Xa (.cells #[.int .i64 2, .int .i64 0] 3))
  have hW' := hW'.later (kept_new Xa (.cells #[.int .i64 2, .int .i64 0] 3))
  clear z0 z1 z2 z3 z4 z5 z6 z7 z8 z9 z10 z11 z12 z13 z14
  obtain ⟨z0, z1, z2, z3, z4, z5, z6, z7, z8, z9, z10, z11, z12, z13, z14⟩ := hW'.cells
  exact T10 _ _ _ _ _ _ _ _ _ _ _ _ _ _ _ _ _ _ _ _ _ _ _ _ _ hW' hI1 hI2
end Go.Proofs.Ytkibnbcdmkogkaa
