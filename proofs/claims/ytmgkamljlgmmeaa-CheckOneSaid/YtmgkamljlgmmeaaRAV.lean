/-
  Contract of the document's own with.
-/
import Derived.Test.YtmgkamljlgmmeaaRAS
namespace Go.Proofs.Ytmgkamljlgmmeaa.Tree
open Go.ChangeShapes Go.WideShapes Go.ChangeAt Go.RowKit
set_option linter.unusedVariables false
set_option linter.unusedSimpArgs false
attribute [local go_sem] Oper.semAt_some
/-- A number put into a rising row. -/
def ins (l : List Int) (n : Int) : List Int := l.filter (fun y => decide (y < n)) ++ n :: l.filter (fun y => decide (n < y))
def withL (l : List Int) (n : Int) : List Int := if n ∈ l then l else ins l n
def wTo (l : List Int) (n : Int) (b : Bool) (i : Nat) : List Int := if b then ins (l.take i) n else l.take i
def ptTo (l : List Int) (n : Int) (i : Nat) : Bool := (l.take i).any fun y => decide (n < y)
theorem ins_mem (l : List Int) (n x : Int) (h : n ∉ l) : x ∈ ins l n ↔ x ∈ l ∨ x = n := by
  unfold ins
  simp only [List.mem_append, List.mem_filter, List.mem_cons, decide_eq_true_eq]
  constructor
  · rintro (⟨a, _⟩ | rfl | ⟨a, _⟩)
    · exact .inl a
    · exact .inr rfl
    · exact .inl a
  · rintro (a | rfl)
    · rcases Int.lt_trichotomy x n with e | e | e
      · exact .inl ⟨a, e⟩
      · exact .inr (.inl e)
      · exact .inr (.inr ⟨a, e⟩)
    · exact .inr (.inl rfl)
theorem ins_rising {l : List Int} {n : Int} (h : Rising l) : Rising (ins l n) := by
  unfold Rising ins at *
  rw [List.pairwise_append]
  refine ⟨h.filter _, ?_, ?_⟩
  · rw [List.pairwise_cons]
    refine ⟨fun y hy => ?_, h.filter _⟩
    have := (List.mem_filter.1 hy).2
    simpa using this
  · intro x hx y hy
    have h1 := (List.mem_filter.1 hx).2
    simp at h1
    rcases List.mem_cons.1 hy with rfl | hy
    · exact h1
    · have h2 := (List.mem_filter.1 hy).2
      simp at h2
      omega
theorem withL_rising {l : List Int} {n : Int} (h : Rising l) : Rising (withL l n) := by
  unfold withL; split
  · exact h
  · exact ins_rising h
theorem withL_mem (l : List Int) (n x : Int) : x ∈ withL l n ↔ x ∈ l ∨ x = n := by
  unfold withL; split
  · rename_i hn
    constructor
    · exact .inl
    · rintro (a | rfl)
      · exact a
      · exact hn
  · rename_i hn
    exact ins_mem l n x hn
theorem filter_lt {l : List Int} {n : Int} (h1 : n ∉ l) (h2 : ∀ y ∈ l, ¬ n < y) : l.filter (fun y => decide (y < n)) = l ∧ l.filter (fun y => decide (n < y)) = [] := by
  constructor
  · rw [List.filter_eq_self]
    intro y hy
    have := h2 y hy
    have : y ≠ n := fun e => h1 (e ▸ hy)
    simp; omega
  · rw [List.filter_eq_nil_iff]
    intro y hy
    simpa using h2 y hy
theorem ptTo_no {l : List Int} {n : Int} {i : Nat} (h : ptTo l n i = false) : ∀ y ∈ l.take i, ¬ n < y := by
  unfold ptTo at h
  rw [List.any_eq_false] at h
  intro y hy
  simpa using h y hy
theorem ptTo_succ {l : List Int} {n y : Int} {i : Nat} (hy : l[i]? = some y) : ptTo l n (i + 1) = (ptTo l n i || decide (n < y)) := by
  unfold ptTo
  rw [List.take_add_one, hy, List.any_append]
  simp
theorem take_not {l : List Int} {n y : Int} {i : Nat} (hy : l[i]? = some y) (h : n ∉ l.take i) (hne : ¬ y = n) : n ∉ l.take (i + 1) := by
  rw [List.take_add_one, hy]
  intro hm
  rcases List.mem_append.1 hm with hm | hm
  · exact h hm
  · exact hne (by simpa using hm : n = y).symm
theorem wA {l : List Int} {n y : Int} {i : Nat} (hy : l[i]? = some y) (h : n ∉ l.take i) (hp : ptTo l n i = false) (hg : n < y) : (wTo l n false i ++ [n]) ++ [y] = wTo l n true (i + 1) := by
  obtain ⟨f1, f2⟩ := filter_lt h (ptTo_no hp)
  have hng : ¬ y < n := by omega
  unfold wTo ins
  rw [List.take_add_one, hy]
  simp only [if_true, Bool.false_eq_true, if_false, List.filter_append, f1, f2, Option.toList_some, List.filter_cons, List.filter_nil, decide_eq_true hg, decide_eq_false hng]
  simp
theorem wB {l : List Int} {n y : Int} {i : Nat} (hl : Rising l) (hy : l[i]? = some y) (hp : ptTo l n i = true) : wTo l n true i ++ [y] = wTo l n true (i + 1) ∧ n < y := by
  have hg : n < y := by
    unfold ptTo at hp
    obtain ⟨z, hz, hz2⟩ := List.any_eq_true.1 hp
    obtain ⟨j, hj⟩ := List.mem_iff_getElem?.1 hz
    have hjl := (List.getElem?_eq_some_iff.1 hj).1
    rw [List.length_take] at hjl
    rw [List.getElem?_take_of_lt (by omega)] at hj
    obtain ⟨h1, e1⟩ := List.getElem?_eq_some_iff.1 hj
    obtain ⟨h2, e2⟩ := List.getElem?_eq_some_iff.1 hy
    have := List.pairwise_iff_getElem.1 hl j i h1 h2 (by omega)
    rw [e1, e2] at this
    have hz3 : n < z := by simpa using hz2
    omega
  have hng : ¬ y < n := by omega
  refine ⟨?_, hg⟩
  unfold wTo ins
  rw [List.take_add_one, hy]
  simp only [if_true, List.filter_append, Option.toList_some, List.filter_cons, List.filter_nil, decide_eq_true hg, decide_eq_false hng]
  simp
theorem wC {l : List Int} {n y : Int} {i : Nat} (hy : l[i]? = some y) : wTo l n false i ++ [y] = wTo l n false (i + 1) := by
  unfold wTo
  rw [List.take_add_one, hy]; rfl
theorem wEnd {l : List Int} {n : Int} {m : Nat} (hm : l.length = m) (h : n ∉ l.take m) (b : Bool) (hp : ptTo l n m = b) : (if b then wTo l n b m else wTo l n b m ++ [n]) = withL l n := by
  have e : l.take m = l := List.take_of_length_le (by omega)
  rw [e] at h
  unfold withL wTo
  rw [if_neg h, e]
  cases b
  · have h2 := ptTo_no hp
    rw [e] at h2
    obtain ⟨f1, f2⟩ := filter_lt h h2
    simp [ins, f1, f2]
  · rfl
theorem wTo_len (l : List Int) (n : Int) (b : Bool) (i : Nat) : (wTo l n b i).length ≤ l.length + 1 := by
  have hi : (l.take i).length ≤ l.length := by rw [List.length_take]; omega
  unfold wTo
  split
  · unfold ins
    have : ∀ k : List Int, (k.filter (fun y => decide (y < n))).length + (k.filter (fun y => decide (n < y))).length ≤ k.length := by
      intro k
      induction k with
      | nil => simp
      | cons y r ih =>
        rcases Int.lt_trichotomy y n with e | e | e
        · have e2 : ¬ n < y := by omega
          simp [List.filter_cons, e, e2]; omega
        · have e1 : ¬ y < n := by omega
          have e2 : ¬ n < y := by omega
          simp [List.filter_cons, e1, e2]; omega
        · have e1 : ¬ y < n := by omega
          simp [List.filter_cons, e1, e]; omega
    have := this (l.take i)
    simp only [List.length_append, List.length_cons]
    omega
  · omega
/-- A number more in a row of one's own. -/
theorem row_more {w W w1 : World} {v v' : Value} {l : List Int} {n : Int} {tmp : Obj} (hr : W.ownsRow w.heap.size 3 1 v l.length (ints l)) (hB : Below w.heap.size w W)
    (hg : (W.alloc tmp).grownBy w1 v.ownBlock) (ho : w1.ownsRow w.heap.size 3 1 v' (l.length + 1) (ints l ++ [.int .i64 n])) : w1.ownsRow w.heap.size 3 1 v' (l ++ [n]).length (ints (l ++ [n])) ∧ Below w.heap.size w w1 := by
  refine ⟨by simpa using ho, Below.grown (hB.trans ((kept_new W tmp).mono hB.size)) hg (by rw [World.size_alloc]; exact Nat.le_succ_of_le hB.size) (fun j ej => (World.ownsRow.lt hr j ej).1)⟩
set_option maxRecDepth 100000 in
set_option maxHeartbeats 1000000 in
theorem with_L (a : Option Addr) (m c : Nat) (l : List Int) (n : Int) (w : World) (hm : l.length = m) (hm1 : m ≤ 1000) (hl : Rising l) (h : IntsAt w (.slice a m c) l) :
    Calls Try.prog 69 #[.slice a m c, .int .i64 n] w fun e w' => ∃ v, e = .returned v ∧ IntsAt w' v (withL l n) ∧ Below w.heap.size w w' := by
  go_enter Try.func69, Try.ntmps69
  go_wp2_with fail
  replace hm := Lib.hid hm
  replace hl := Lib.hid hl
  replace h := Lib.hid h
  obtain ⟨i0, hi, hz0, hz1, hz2⟩ := info_parts Try.info3
  replace hi := Lib.hid hi
  go_loopw [5, 6, 7] (fun o b t wt => ∃ i : Nat, i ≤ m ∧ t = .int .i64 i ∧ b = .bool (ptTo l n i) ∧ Hid (n ∉ l.take i) ∧ Hid (wt.ownsRow w.heap.size 3 1 o (wTo l n (ptTo l n i) i).length (ints (wTo l n (ptTo l n i) i))) ∧ Hid (Below w.heap.size w wt)) (fun _ _ t _ => m - (intOf t).toNat)
  case atStart => exact ⟨0, Nat.zero_le _, rfl, by simp [ptTo], by show _ ∉ _; simp, (by show World.ownsRow _ _ _ _ _ _ _; simpa [ptTo, wTo] using World.ownsRow_nil _ _ _ _), Below.refl _ _⟩
  case round =>
    obtain ⟨i, hi', rfl, rfl, hno, hr, hB⟩ := hrel
    obtain ⟨B, hBp⟩ : ∃ B, ptTo l n i = B := ⟨_, rfl⟩
    rw [hBp] at hr ⊢
    have hlen := wTo_len l n B i
    rw [hm.out] at hlen
    obtain ⟨O, hO⟩ : ∃ O, wTo l n B i = O := ⟨_, rfl⟩
    rw [hO] at hr hlen
    have hBs := hB.out.size
    have hb63 : O.length + 1 ≤ maxLen := by unfold maxLen; omega
    have hb8 : (O.length + 1) * 8 ≤ 140737488355328 := by omega
    have hIr := Lib.hid (h.out.later hB.out)
    by_cases hlt : i < m
    · have hlti : (i : Int) < m := by omega
      obtain ⟨y, hy⟩ : ∃ y, l[i]? = some y := ⟨_, List.getElem?_eq_getElem (by rw [hm.out]; exact hlt)⟩
      obtain ⟨b1, o1, rfl, z0⟩ := hIr.out.at hm.out hy
      by_cases hyn : y = n
      · have e1 : (y == n) = true := by simp [hyn]
        have hin : withL l n = l := by unfold withL; rw [if_pos (by rw [← hyn]; exact List.mem_of_getElem? hy)]
        clear hy hyn hBp hO
        go_wp2_with fail
        go_ret
        exact ⟨_, rfl, by rw [hin]; exact hIr.out, hB.out⟩
      · have e1 : (y == n) = false := by simp [hyn]
        have hno2 := Lib.hid (take_not hy hno.out hyn)
        have hps := Lib.hid (ptTo_succ (n := n) hy)
        rw [hBp] at hps
        by_cases hg : n < y
        · have eg : decide (n < y) = true := decide_eq_true hg
          cases B
          · have hst := Lib.hid (wA hy hno.out hBp hg)
            rw [hO] at hst
            have hf : Hid (∀ {v' w1 tmp}, (wr.alloc tmp).grownBy w1 u5.ownBlock → w1.ownsRow w.heap.size 3 1 v' (O.length + 1) (ints O ++ [.int .i64 n]) → w1.ownsRow w.heap.size 3 1 v' (O ++ [n]).length (ints (O ++ [n])) ∧ Below w.heap.size w w1) := fun hg ho => row_more hr.out hB.out hg ho
            have hb63' : (O ++ [n]).length + 1 ≤ maxLen := by rw [List.length_append]; unfold maxLen; simp; omega
            have hb8' : ((O ++ [n]).length + 1) * 8 ≤ 140737488355328 := by rw [List.length_append]; simp; omega
            have K9 : Hid (∀ X, Below w.heap.size w X → X.cell? ⟨b1, o1 + i, none⟩ = some (.int .i64 y)) := by
              show ∀ _, _
              intro X hX
              obtain ⟨b2, o2, e, z⟩ := (h.out.later hX).at hm.out hy
              cases e
              exact z
            clear hy hO hg hBp
            go_wp2_with (first
              | ((at_builtin; refine wpList_append_cells rfl (.tmp 31) (.tmp 33) 36 rfl w.heap.size 3 i0 _ 1 8 Try.underlying36 hi.out hz0 hz1 hz2 rfl (by decide) u5 O.length (ints O) rfl (World.ownsRow.alloc hr.out _) (some ⟨wr.heap.size, 0, none⟩) 1 1 [.int .i64 n] rfl rfl (cells_newA wr [.int .i64 n] 3) (by simp [Value.oneCell']) hb63 hb8 (by rw [World.size_alloc]; exact Nat.le_succ_of_le hBs) ?_; intro v1 w1 hown1 hgrow1); obtain ⟨hr1, hB1⟩ := hf.out hgrow1 hown1; have hs1 := hB1.size; have z1 := K9.out w1 hB1; clear hgrow1 hown1)
              | (at_builtin; refine wpList_append_cells rfl (.tmp 35) (.tmp 40) 36 rfl w.heap.size 3 i0 _ 1 8 Try.underlying36 hi.out hz0 hz1 hz2 rfl (by decide) v1 (O ++ [n]).length (ints (O ++ [n])) rfl (World.ownsRow.alloc hr1 _) (some ⟨w1.heap.size, 0, none⟩) 1 1 [.int .i64 y] rfl rfl (cells_newA w1 [.int .i64 y] 3) (by simp [Value.oneCell']) hb63' hb8' (by rw [World.size_alloc]; exact Nat.le_succ_of_le hs1) ?_; intro v2 w2 hown2 hgrow2)
              | fail)
            obtain ⟨hr2, hB2⟩ := row_more hr1 hB1 hgrow2 hown2
            refine ⟨⟨i + 1, by omega, by go_num, by rw [hps.out, eg]; rfl, hno2.out, ?_, hB2⟩, by simp [intOf]; omega⟩
            show World.ownsRow _ _ _ _ _ _ _
            rw [hps.out, eg, Bool.or_true, ← hst.out]
            exact hr2
          · obtain ⟨hst, -⟩ := wB hl.out hy hBp
            rw [hO] at hst
            replace hst := Lib.hid hst
            clear hy hO hg hBp
            go_wp2_with (first
              | (at_builtin; refine wpList_append_cells rfl (.tmp 35) (.tmp 40) 36 rfl w.heap.size 3 i0 _ 1 8 Try.underlying36 hi.out hz0 hz1 hz2 rfl (by decide) u5 O.length (ints O) rfl (World.ownsRow.alloc hr.out _) (some ⟨wr.heap.size, 0, none⟩) 1 1 [.int .i64 y] rfl rfl (cells_newA wr [.int .i64 y] 3) (by simp [Value.oneCell']) hb63 hb8 (by rw [World.size_alloc]; exact Nat.le_succ_of_le hBs) ?_; intro v1 w1 hown1 hgrow1)
              | fail)
            obtain ⟨hr1, hB1⟩ := row_more hr.out hB.out hgrow1 hown1
            refine ⟨⟨i + 1, by omega, by go_num, by rw [hps.out, eg]; rfl, hno2.out, ?_, hB1⟩, by simp [intOf]; omega⟩
            show World.ownsRow _ _ _ _ _ _ _
            rw [hps.out, eg, Bool.or_true, ← hst.out]
            exact hr1
        · have eg : decide (n < y) = false := decide_eq_false hg
          have hBf : B = false := by
            cases B
            · rfl
            · exact absurd (wB hl.out hy hBp).2 hg
          subst hBf
          have hst := Lib.hid (wC (n := n) hy)
          rw [hO] at hst
          clear hy hO hg hBp
          go_wp2_with (first
            | (at_builtin; refine wpList_append_cells rfl (.tmp 35) (.tmp 40) 36 rfl w.heap.size 3 i0 _ 1 8 Try.underlying36 hi.out hz0 hz1 hz2 rfl (by decide) u5 O.length (ints O) rfl (World.ownsRow.alloc hr.out _) (some ⟨wr.heap.size, 0, none⟩) 1 1 [.int .i64 y] rfl rfl (cells_newA wr [.int .i64 y] 3) (by simp [Value.oneCell']) hb63 hb8 (by rw [World.size_alloc]; exact Nat.le_succ_of_le hBs) ?_; intro v1 w1 hown1 hgrow1)
            | fail)
          obtain ⟨hr1, hB1⟩ := row_more hr.out hB.out hgrow1 hown1
          refine ⟨⟨i + 1, by omega, by go_num, by rw [hps.out, eg]; rfl, hno2.out, ?_, hB1⟩, by simp [intOf]; omega⟩
          show World.ownsRow _ _ _ _ _ _ _
          rw [hps.out, eg, Bool.or_false, ← hst.out]
          exact hr1
    · obtain rfl : i = m := by omega
      have hlti : ¬ (i : Int) < i := by omega
      have hend := Lib.hid (wEnd hm.out hno.out B hBp)
      rw [hO] at hend
      clear hBp hO
      cases B
      · go_wp2_with (first
          | (at_builtin; refine wpList_append_cells rfl (.tmp 44) (.tmp 46) 36 rfl w.heap.size 3 i0 _ 1 8 Try.underlying36 hi.out hz0 hz1 hz2 rfl (by decide) u5 O.length (ints O) rfl (World.ownsRow.alloc hr.out _) (some ⟨wr.heap.size, 0, none⟩) 1 1 [.int .i64 n] rfl rfl (cells_newA wr [.int .i64 n] 3) (by simp [Value.oneCell']) hb63 hb8 (by rw [World.size_alloc]; exact Nat.le_succ_of_le hBs) ?_; intro v1 w1 hown1 hgrow1)
          | fail)
        obtain ⟨hr1, hB1⟩ := row_more hr.out hB.out hgrow1 hown1
        go_ret
        exact ⟨_, rfl, by rw [← hend.out]; exact IntsAt.of_row hr1, hB1⟩
      · go_wp2_with fail
        go_ret
        exact ⟨_, rfl, by rw [← hend.out]; exact IntsAt.of_row hr.out, hB.out⟩
end Go.Proofs.Ytmgkamljlgmmeaa.Tree
