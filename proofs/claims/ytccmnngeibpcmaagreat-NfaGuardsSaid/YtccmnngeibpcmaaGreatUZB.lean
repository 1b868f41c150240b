/-
  Several texts in one: UQ UTA UV UW UY UJ.
-/
import Derived.Test.YtccmnngeibpcmaaGreatUZI
import Derived.Test.YtccmnngeibpcmaaGreatRAL
import Derived.Test.YtccmnngeibpcmaaGreatCH
import Derived.Deep.RegionWith
import Derived.Deep.CutRange
import Derived.Test.YtccmnngeibpcmaaGreatUZA
import Derived.Test.YtccmnngeibpcmaaGreatCZQ
import Derived.Deep.RegionHeld3
/- UnrollOwn's walk; Rows at any pattern that is not too great. -/
namespace Go.Proofs.YtccmnngeibpcmaaGreat.Tree
open Go.ChangeShapes Go.WideShapes Go.ChangeAt Go.RowKit
set_option linter.unusedVariables false
set_option linter.unusedSimpArgs false
set_option maxRecDepth 100000
attribute [local go_sem] Oper.semAt_some
/-- What Rows tells of any pattern. -/
def rowsR (ss : List Sp) (win : Int) : List (List Int) := if mayB ss win = true then rowsP ss else []
theorem rowsR_bd (ss : List Sp) (win : Int) : (rowsR ss win).length ≤ 81 ∧ ∀ r ∈ rowsR ss win, r.length ≤ 12 := by
  unfold rowsR
  split
  · rename_i h
    rw [← rowsK_all ss (Nat.le_refl _)]
    exact (may_good h).rowsK_bd _
  · simp
theorem rows_R {v : Value} {L : List (Sp × Value)} (win : Int) (hc : UnOk L) (w : World) (h : SpsL w v L) :
    Calls Tryz.prog 24 #[ptV v win] w fun e w' => ∃ u, e = .returned u ∧ OwnRows w' w.heap.size u (rowsR (L.map (·.1)) win) ∧ Below w.heap.size w w' := by
  refine (rows_V win hc w h).mono ?_
  rintro e w' ⟨u, h1, h2, h3, h4⟩
  refine ⟨u, h1, ?_, h4⟩
  unfold rowsR
  cases hm : mayB (L.map (·.1)) win with
  | true => rw [if_pos rfl]; exact h2 hm
  | false =>
    rw [if_neg (by simp)]
    obtain rfl := h3 hm
    exact ⟨[], World.ownsRow_nil _ _ _ _, fun i u r hu => by simp at hu⟩
theorem unOk_of {L : List (Sp × Value)} {w : World} (hg : great (L.map (·.1)) = false) (hq : ∀ x ∈ L, InSp w x) : UnOk L := ⟨ck_of hg hq, (Small.of_great hg).1⟩
/-- What the law reads all along: its pattern in a box. -/
def PK (w : World) (v : Value) (win : Int) (X : World) : Prop := PtBox w.heap.size v win X ∧ Below w.heap.size w X
theorem PK.later {w : World} {v : Value} {win : Int} {X Y : World} (h : PK w v win X) (hb : Below X.heap.size X Y) : PK w v win Y := ⟨h.1.later hb, kept_trans h.2 hb⟩
/-- Rows that are turned, one number after the other: a's rows are of a's memory, below N; b's stay. -/
def OwI (w : World) (v : Value) (win : Int) (N : Nat) (ua ub : Value) (vs : List Value) (R : List (List Int)) (X : World) : Prop :=
  X.ownsRow w.heap.size 28 1 ua R.length vs ∧ (∀ (k : Nat) (u : Value) (r : List Int), vs[k]? = some u → R[k]? = some r → ∃ xs : List Int, xs.length = r.length ∧ X.ownsRow w.heap.size 3 1 u r.length (ints xs)) ∧
  (∀ (k : Nat) (u : Value), vs[k]? = some u → ∀ g, u.ownBlock = some g → g < N) ∧ OwnRows X N ub R ∧ PK w v win X
theorem OwI.set {w : World} {v : Value} {win : Int} {N : Nat} {ua ub : Value} {vs : List Value} {R : List (List Int)} {X : World} (h : OwI w v win N ua ub vs R X) {i j : Nat} {g cp m : Nat} {r : List Int}
    (hu : vs[i]? = some (.slice (some ⟨g, 0, none⟩) m cp)) (hr : R[i]? = some r) (hj : j < r.length) (x : Int) : OwI w v win N ua ub vs R (X.setCell ⟨g, j, none⟩ (.int .i64 x)) := by
  obtain ⟨h1, h2, h3, h4, h5⟩ := h
  obtain ⟨xs, hl, ho⟩ := h2 i _ r hu hr
  have hgN := h3 i _ hu g rfl
  have hgr := grownBy_setCell_any X g j (.int .i64 x)
  have hk := own_is ho
  have hSg : w.heap.size ≤ g := own_ge ho g rfl
  obtain ⟨cs, hcs⟩ : ∃ cs, X.heap[g]? = some (.cells cs 3 (0, 0)) := by
    rcases ho.2 with ⟨e, _⟩ | ⟨g', cap, cur, e, _, hg, _⟩
    · cases e
    · cases e; exact ⟨_, hg⟩
  refine ⟨row_kept h1 hgr (fun r e => hk 28 (by decide) r (by cases e; rfl)), fun k u q hku hq => ?_, h3, ?_, ⟨?_, h5.2.setCell (p := ⟨g, j, none⟩) hSg _⟩⟩
  · obtain ⟨ys, hyl, hy⟩ := h2 k u q hku hq
    by_cases e : u.ownBlock = some g
    · rcases hy.2 with ⟨rfl, h0⟩ | ⟨g', cap, cur, rfl, hb, hg, hn, hm, hs, ht⟩
      · simp [Value.ownBlock] at e
      · obtain rfl : g' = g := by simpa [Value.ownBlock] using e
        rw [hcs] at hg
        cases hg
        by_cases hjq : j < q.length
        · have := (hy.stored j (.int .i64 x)).1
          refine ⟨ys.set j x, by simpa using hyl, ?_⟩
          rw [show ints (ys.set j x) = (ints ys).set j (.int .i64 x) from by simp [ints, List.map_set]]
          exact this
        · refine ⟨ys, hyl, hy.1, .inr ⟨g', cap, cs.setIfInBounds j (.int .i64 x), rfl, hb, ?_, hn, hm, by simpa using hs, ?_⟩⟩
          · rw [setCell_eq_setRow X g' j cs 3 (0, 0) _ hcs]
            exact setRow_heap X g' cs _ 3 _ hcs
          · rw [← ht, Array.toList_setIfInBounds, List.take_set_of_le (by omega)]
    · exact ⟨ys, hyl, ownsRow_setCell_other hy e _⟩
  · obtain ⟨vb, k1, k2⟩ := h4
    exact ⟨vb, ownsRow_setCell_below k1 hgN _, fun i u r hu hr => ownsRow_setCell_below (k2 i u r hu hr) hgN _⟩
  · refine block_far h5.1 (fun e => ?_) _ _
    have := h5.1
    rw [e] at this
    rw [show X.heap[g]? = _ from this] at hcs
    cases hcs
theorem own_look {W : World} {base : Nat} {a : Option Addr} {n c m : Nat} {vs : List Value} (h : W.ownsRow base 28 1 (.slice a n c) m vs) {k : Nat} {u : Value} (hu : vs[k]? = some u) : ∃ b, a = some ⟨b, 0, none⟩ ∧ W.cell? ⟨b, k, none⟩ = some u := by
  have hk := (List.getElem?_eq_some_iff.1 hu).1
  have hl : vs.length = m := by have := h.1; simpa using this
  rcases h.2 with ⟨e, h0⟩ | ⟨g, cap, cur, e, hb, hg, hn, hm, hs, ht⟩
  · omega
  · cases e
    refine ⟨g, rfl, ?_⟩
    rw [← ht, List.getElem?_take_of_lt (by omega)] at hu
    simp only [World.cell?, hg]
    simpa using hu
theorem OwnRows.below {W : World} {base : Nat} {v : Value} {R : List (List Int)} {vs : List Value} (h1 : W.ownsRow base 28 1 v R.length vs) (h2 : EachOwn W base vs R) : ∀ (k : Nat) (u : Value), vs[k]? = some u → ∀ g, u.ownBlock = some g → g < W.heap.size := by
  intro k u hu g hg
  have hl : vs.length = R.length := by have := h1.1; simpa using this
  have hk := (List.getElem?_eq_some_iff.1 hu).1
  obtain ⟨r, hr⟩ : ∃ r, R[k]? = some r := ⟨_, List.getElem?_eq_getElem (by omega)⟩
  rcases (h2 k u r hu hr).2 with ⟨rfl, _⟩ | ⟨g', cap, cur, rfl, _, hh, _⟩
  · simp [Value.ownBlock] at hg
  · obtain rfl : g' = g := by simpa [Value.ownBlock] using hg
    exact (Array.getElem?_eq_some_iff.1 hh).1
end Go.Proofs.YtccmnngeibpcmaaGreat.Tree
/- Pure facts of rows: which are rows, how long they are, how they stand in order. -/
namespace Go.Proofs.YtccmnngeibpcmaaGreat.Tree
open Go.ChangeShapes Go.WideShapes Go.ChangeAt Go.RowKit
set_option linter.unusedVariables false
set_option linter.unusedSimpArgs false
set_option maxRecDepth 100000
attribute [local go_sem] Oper.semAt_some
theorem leadN_app (t : List Int) (i : Int) (m : Nat) (ht : ∀ y ∈ t, y ≠ i) : leadN (List.replicate m i ++ t) i = m := by
  induction m with
  | zero =>
    cases t with
    | nil => rfl
    | cons y t => simp [leadN, ht y List.mem_cons_self]
  | succ m ih => rw [List.replicate_succ, List.cons_append]; simp [leadN, ih]
theorem leadN_split (r : List Int) (i : Int) : r = List.replicate (leadN r i) i ++ r.drop (leadN r i) := by
  induction r with
  | nil => rfl
  | cons x r ih =>
    simp only [leadN]
    split
    · rename_i h
      subst h
      rw [List.replicate_succ, List.cons_append, List.drop_succ_cons, ← ih]
    · rfl
/-- The steps' numbers rise, from b on, and each comes so many times as it may. -/
def StUp : List (Nat × Sp) → Nat → Prop
  | [], _ => True
  | x :: P, b => b ≤ x.1 ∧ 1 ≤ x.2.min ∧ x.2.min ≤ x.2.max ∧ x.2.max ≤ 3 ∧ StUp P (x.1 + 1)
theorem StUp.mono {P : List (Nat × Sp)} {b b' : Nat} (h : StUp P b) (hb : b' ≤ b) : StUp P b' := by
  cases P with
  | nil => trivial
  | cons x P => exact ⟨Nat.le_trans hb h.1, h.2⟩
theorem StUp.ge {P : List (Nat × Sp)} {b : Nat} (h : StUp P b) : ∀ x ∈ P, b ≤ x.1 := by
  induction P generalizing b with
  | nil => intro x hx; cases hx
  | cons y P ih =>
    intro x hx
    rcases List.mem_cons.1 hx with rfl | hx
    · exact h.1
    · have h1 := ih h.2.2.2.2 x hx; have h2 := h.1; omega
theorem rising_of (ss : List Sp) (b : Nat) (h : ∀ s ∈ ss, s.neg = false → 1 ≤ s.min ∧ s.min ≤ s.max ∧ s.max ≤ 3) : StUp (posS ss b) b := by
  induction ss generalizing b with
  | nil => trivial
  | cons s r ih =>
    have ih' := ih (b + 1) fun t ht => h t (List.mem_cons_of_mem _ ht)
    unfold posS
    split
    · exact ih'.mono (by omega)
    · rename_i hn
      obtain ⟨h1, h2, h3⟩ := h s List.mem_cons_self (by simpa using hn)
      exact ⟨Nat.le_refl _, h1, h2, h3, ih'⟩
theorem isL_ge {P : List (Nat × Sp)} {b : Nat} {t : List Int} (hP : StUp P b) (h : isL P t = true) : ∀ y ∈ t, (b : Int) ≤ y := by
  intro y hy
  obtain ⟨x, hx, rfl⟩ := isL_mem h y hy
  have := hP.ge x hx
  omega
theorem isL_step {x : Nat × Sp} {P : List (Nat × Sp)} (hP : StUp (x :: P) 0) (q : List Int) : isL (x :: P) q = true ↔ ∃ k, k < (x.2.max + 1 - x.2.min).toNat ∧ ∃ t, isL P t = true ∧ q = List.replicate (x.2.min.toNat + k) (x.1 : Int) ++ t := by
  obtain ⟨h0, h1, h2, h3, h4⟩ := hP
  rw [isL]
  constructor
  · intro h
    split at h
    · cases h
    · rename_i hn
      refine ⟨leadN q x.1 - x.2.min.toNat, by omega, q.drop (leadN q x.1), h, ?_⟩
      rw [show x.2.min.toNat + (leadN q x.1 - x.2.min.toNat) = leadN q x.1 by omega]
      exact leadN_split q x.1
  · rintro ⟨k, hk, t, ht, rfl⟩
    have hl := leadN_app t x.1 (x.2.min.toNat + k) fun y hy e => by
      have := isL_ge h4 ht y hy
      omega
    rw [hl, if_neg (by omega), List.drop_left' (by simp)]
    exact ht
theorem fold_mem (P : List (Nat × Sp)) (b : Nat) (hP : StUp P b) (R : List (List Int)) (q : List Int) : q ∈ P.foldl stepR R ↔ ∃ r ∈ R, ∃ t, isL P t = true ∧ q = r ++ t := by
  induction P generalizing R b with
  | nil =>
    simp only [List.foldl_nil, isL, List.isEmpty_iff]
    constructor
    · intro h; exact ⟨q, h, [], rfl, by simp⟩
    · rintro ⟨r, hr, t, rfl, rfl⟩; simpa using hr
  | cons x P ih =>
    rw [List.foldl_cons, ih (x.1 + 1) hP.2.2.2.2]
    constructor
    · rintro ⟨r', hr', t, ht, rfl⟩
      obtain ⟨r, hr, k, hk, rfl⟩ := furL_mem.1 hr'
      exact ⟨r, hr, List.replicate (x.2.min.toNat + k) (x.1 : Int) ++ t, (isL_step (hP.mono (Nat.zero_le _)) _).2 ⟨k, hk, t, ht, rfl⟩, by rw [List.append_assoc]⟩
    · rintro ⟨r, hr, t', ht', rfl⟩
      obtain ⟨k, hk, t, ht, rfl⟩ := (isL_step (hP.mono (Nat.zero_le _)) _).1 ht'
      exact ⟨_, furL_mem.2 ⟨r, hr, k, hk, rfl⟩, t, ht, by rw [List.append_assoc]⟩
theorem GoodP.rising {ss : List Sp} (h : GoodP ss) : StUp (posS ss 0) 0 := rising_of ss 0 h.pos
/-- A row is one of the pattern's just if it has each positive step so many times. -/
theorem GoodP.mem {ss : List Sp} (h : GoodP ss) (q : List Int) : q ∈ rowsP ss ↔ isL (posS ss 0) q = true := by
  unfold rowsP
  rw [fold_mem _ 0 h.rising]
  constructor
  · rintro ⟨r, hr, t, ht, rfl⟩
    obtain rfl : r = [] := by simpa using hr
    exact ht
  · intro hq; exact ⟨[], by simp, q, hq, rfl⟩
theorem isL_len {P : List (Nat × Sp)} {b : Nat} (hP : StUp P b) {q : List Int} (h : isL P q = true) : (q.length : Int) ≤ (P.map (fun x => within x.2.max)).sum ∧ (P ≠ [] → 1 ≤ q.length) := by
  induction P generalizing q b with
  | nil =>
    have : q = [] := by simpa [isL] using h
    subst this; simp
  | cons x P ih =>
    obtain ⟨k, hk, t, ht, rfl⟩ := (isL_step (hP.mono (Nat.zero_le _)) q).1 h
    have h1 := (ih hP.2.2.2.2 ht).1
    obtain ⟨-, h2, h3, h4, -⟩ := hP
    refine ⟨?_, fun _ => ?_⟩
    · rw [List.map_cons, List.sum_cons, List.length_append, List.length_replicate]
      have : within x.2.max = x.2.max := by unfold within; omega
      omega
    · rw [List.length_append, List.length_replicate]; omega
theorem GoodP.nonempty {ss : List Sp} (h : GoodP ss) : posS ss 0 ≠ [] := by
  cases ss with
  | nil => have := h.len1; simp at this
  | cons s r =>
    have := h.first s rfl
    simp [posS, this]
theorem GoodP.row_len {ss : List Sp} (h : GoodP ss) {q : List Int} (hq : q ∈ rowsP ss) : 1 ≤ q.length ∧ q.length ≤ 4 := by
  have h1 := isL_len h.rising ((h.mem q).1 hq)
  rw [posS_sum] at h1
  have := h.most
  exact ⟨h1.2 h.nonempty, by omega⟩
/-- Does a row stand ahead of another one? -/
def aheadL : List Int → List Int → Bool
  | _, [] => false
  | [], _ :: _ => true
  | x :: a, y :: b => if x = y then aheadL a b else decide (y < x)
theorem ahead_more (r : List Int) (i : Int) (j k : Nat) (hjk : j < k) : aheadL (r ++ List.replicate j i) (r ++ List.replicate k i) = true := by
  induction r with
  | nil =>
    induction j generalizing k with
    | zero => obtain ⟨k, rfl⟩ : ∃ k', k = k' + 1 := ⟨k - 1, by omega⟩; rfl
    | succ j ih => obtain ⟨k, rfl⟩ : ∃ k', k = k' + 1 := ⟨k - 1, by omega⟩; simp only [List.nil_append, List.replicate_succ, aheadL, if_true]; simpa using ih k (by omega)
  | cons x r ih => simp only [List.cons_append, aheadL, if_true]; exact ih
theorem ahead_far (i : Int) (j k : Nat) (hj : 1 ≤ j) : ∀ (a b : List Int), (∀ y ∈ b, y < i) → aheadL a b = true → aheadL (a ++ List.replicate j i) (b ++ List.replicate k i) = true
  | _, [], _, h => by simp [aheadL] at h
  | [], y :: b, hb, _ => by
    obtain ⟨j, rfl⟩ : ∃ j', j = j' + 1 := ⟨j - 1, by omega⟩
    have := hb y List.mem_cons_self
    simp only [List.nil_append, List.replicate_succ, List.cons_append, aheadL]
    rw [if_neg (by omega)]
    simpa using this
  | x :: a, y :: b, hb, h => by
    simp only [List.cons_append, aheadL] at h ⊢
    split
    · rename_i e
      rw [if_pos e] at h
      exact ahead_far i j k hj a b (fun z hz => hb z (List.mem_cons_of_mem _ hz)) h
    · rename_i e
      rw [if_neg e] at h
      exact h
theorem range_pair (c : Nat) (f : Nat → List Int) (h : ∀ j k, j < k → k < c → aheadL (f j) (f k) = true) : ((List.range c).map f).Pairwise fun a b => aheadL a b = true := by
  rw [List.pairwise_iff_getElem]
  intro i j hi hj hij
  simp at hi hj
  simpa using h i j hij hj
theorem furL_pair (R : List (List Int)) (i : Int) (mn c : Nat) (hmn : 1 ≤ mn) (hR : R.Pairwise fun a b => aheadL a b = true) (hlt : ∀ r ∈ R, ∀ y ∈ r, y < i) : (furL R i mn c).Pairwise fun a b => aheadL a b = true := by
  unfold furL
  induction R with
  | nil => simp
  | cons r R ih =>
    rw [List.flatMap_cons, List.pairwise_append]
    rw [List.pairwise_cons] at hR
    refine ⟨range_pair c _ fun j k hjk _ => ahead_more r i _ _ (by omega), ih hR.2 fun q hq => hlt q (List.mem_cons_of_mem _ hq), ?_⟩
    intro a ha b hb
    obtain ⟨j, hj, rfl⟩ := List.mem_map.1 ha
    obtain ⟨q, hq, hb⟩ := List.mem_flatMap.1 hb
    obtain ⟨k, hk, rfl⟩ := List.mem_map.1 hb
    exact ahead_far i _ _ (by omega) r q (hlt q (List.mem_cons_of_mem _ hq)) (hR.1 q hq)
theorem fold_pair (P : List (Nat × Sp)) (b : Nat) (hP : StUp P b) (R : List (List Int)) (hR : R.Pairwise fun a b => aheadL a b = true) (hlt : ∀ r ∈ R, ∀ y ∈ r, y < (b : Int)) : (P.foldl stepR R).Pairwise fun a b => aheadL a b = true := by
  induction P generalizing R b with
  | nil => exact hR
  | cons x P ih =>
    obtain ⟨h0, h1, h2, h3, h4⟩ := hP
    refine ih (x.1 + 1) h4 (stepR R x) (furL_pair R x.1 _ _ (by omega) hR fun r hr y hy => by have := hlt r hr y hy; omega) fun q hq y hy => ?_
    obtain ⟨r, hr, k, hk, rfl⟩ := furL_mem.1 hq
    rcases List.mem_append.1 hy with hy | hy
    · have := hlt r hr y hy; omega
    · obtain ⟨-, rfl⟩ := List.mem_replicate.1 hy; omega
/-- A row stands ahead of the next one. -/
theorem GoodP.ahead {ss : List Sp} (h : GoodP ss) {i : Nat} {a b : List Int} (ha : (rowsP ss)[i]? = some a) (hb : (rowsP ss)[i + 1]? = some b) : aheadL a b = true := by
  have hp : (rowsP ss).Pairwise fun a b => aheadL a b = true := fold_pair _ 0 h.rising [[]] (by simp) (by simp)
  rw [List.pairwise_iff_getElem] at hp
  obtain ⟨h1, rfl⟩ := List.getElem?_eq_some_iff.1 ha
  obtain ⟨h2, rfl⟩ := List.getElem?_eq_some_iff.1 hb
  exact hp i (i + 1) h1 h2 (by omega)
theorem aheadL_step {xs ys : List Int} {k : Nat} {x y : Int} (hx : xs[k]? = some x) (hy : ys[k]? = some y) : aheadL (xs.drop k) (ys.drop k) = if x = y then aheadL (xs.drop (k + 1)) (ys.drop (k + 1)) else decide (y < x) := by
  obtain ⟨h1, e1⟩ := List.getElem?_eq_some_iff.1 hx
  obtain ⟨h2, e2⟩ := List.getElem?_eq_some_iff.1 hy
  rw [List.drop_eq_getElem_cons h1, List.drop_eq_getElem_cons h2, e1, e2, aheadL]
theorem aheadL_end (q : List Int) {ys : List Int} {k : Nat} (h : ys.length ≤ k) : aheadL q (ys.drop k) = false := by
  rw [List.drop_eq_nil_of_le h]; cases q <;> rfl
theorem aheadL_first {xs ys : List Int} {k : Nat} (h : xs.length ≤ k) (h2 : k < ys.length) : aheadL (xs.drop k) (ys.drop k) = true := by
  rw [List.drop_eq_nil_of_le h, List.drop_eq_getElem_cons h2]; rfl
/-- Is what is left of a row what is left of the steps? (As the law counts it: step by step, negative ones too.) -/
def stepOk (s : Sp) (n : Nat) : Bool := (s.neg && (n : Int) == 0) || (!s.neg && decide (s.min ≤ n) && decide ((n : Int) ≤ s.max))
def restL : List Sp → Nat → List Int → Bool
  | [], _, q => q.isEmpty
  | s :: r, i, q => stepOk s (leadN q i) && restL r (i + 1) (q.drop (leadN q i))
theorem leadN_pos {q : List Int} {i : Int} (h : leadN q i ≠ 0) : i ∈ q := by
  have := leadN_at q i 0 (by omega)
  exact List.mem_of_getElem? this
theorem restL_is (ss : List Sp) (i : Nat) (q : List Int) (hP : StUp (posS ss i) i) : restL ss i q = isL (posS ss i) q := by
  induction ss generalizing i q with
  | nil => rfl
  | cons s r ih =>
    rw [restL]
    cases hn : s.neg with
    | true =>
      have e : posS (s :: r) i = posS r (i + 1) := by simp [posS, hn]
      rw [e] at hP ⊢
      have hP1 : StUp (posS r (i + 1)) (i + 1) := by
        cases hp : posS r (i + 1) with
        | nil => trivial
        | cons x P =>
          rw [hp] at hP
          refine ⟨(posS_mem (b := i + 1) (ss := r) (by rw [hp]; exact List.mem_cons_self)).1, hP.2⟩
      by_cases h0 : leadN q i = 0
      · rw [h0, List.drop_zero, ih (i + 1) q hP1]
        simp [stepOk, hn]
      · have hf : isL (posS r (i + 1)) q = false := by
          cases hh : isL (posS r (i + 1)) q with
          | false => rfl
          | true =>
            have := isL_ge hP1 hh _ (leadN_pos h0)
            omega
        rw [hf]
        have : stepOk s (leadN q i) = false := by simp [stepOk, hn]; omega
        rw [this]; rfl
    | false =>
      have e : posS (s :: r) i = (i, s) :: posS r (i + 1) := by simp [posS, hn]
      rw [e] at hP ⊢
      rw [isL, ih (i + 1) _ hP.2.2.2.2]
      by_cases h0 : ((leadN q i : Nat) : Int) < s.min ∨ s.max < ((leadN q i : Nat) : Int)
      · rw [if_pos h0]
        have : stepOk s (leadN q i) = false := by
          simp [stepOk, hn]; omega
        rw [this]; rfl
      · rw [if_neg h0]
        have : stepOk s (leadN q i) = true := by
          simp [stepOk, hn]; omega
        rw [this]; rfl
theorem restL_isP (ss : List Sp) (win : Int) (q : List Int) : (mayB ss win && restL ss 0 q) = isP ss win q := by
  unfold isP
  cases hm : mayB ss win with
  | false => rfl
  | true => rw [restL_is ss 0 q (may_good hm).rising]
theorem restL_step {ss : List Sp} {i : Nat} {s : Sp} (h : ss[i]? = some s) (q : List Int) : restL (ss.drop i) i q = (stepOk s (leadN q i) && restL (ss.drop (i + 1)) (i + 1) (q.drop (leadN q i))) := by
  obtain ⟨hk, e⟩ := List.getElem?_eq_some_iff.1 h
  rw [List.drop_eq_getElem_cons hk, e, restL]
/-- Numbers that came in. -/
def NmsIn (W : World) (v : Value) (xs : List Int) : Prop := NmsC W v xs ∧ xs.length ≤ maxLen
theorem flat_ints (l : List Int) : l.flatMap (fun x : Int => [Value.int .i64 x]) = ints l := by
  induction l with
  | nil => rfl
  | cons x l ih => rw [List.flatMap_cons, ih]; rfl
theorem open_nums {H : Type} {enc : TypeId × Value → H} {w : World} {base : Nat} {spare : Nat → Bool} {held : Bool} {r : Reach} {b0 : Nat} {v : Value} {d : DataW H} {p : List MemPlace} (hv : Value.okWide Tryz.prog w r b0 28 v) (h : DataW.Trod enc Tryz.prog w base spare held 28 v d p) :
    ∃ xs : List Int, NmsIn w v xs := by
  obtain ⟨a0, n0, c0, rfl⟩ := okWide_slice Tryz.underlying28 hv
  obtain ⟨m, hm⟩ := h
  obtain ⟨a, c, l, e, hl, hc, -⟩ := open_row 1 cells3 (by omega) (fun x : Int => [Value.int .i64 x]) (fun _ => rfl) (fun _ : Int => True) Tryz.underlying28
    (fun n cs' y h => by obtain ⟨k, e, -, -⟩ := DataW.trod_int Tryz.underlying3 h; exact ⟨k, e, trivial⟩) hm
  replace e : [Value.slice a0 n0 c0] = [.slice a l.length c] := e
  simp at e
  obtain ⟨rfl, rfl, rfl⟩ := e
  refine ⟨l, ⟨a0, c0, rfl, ?_, ?_⟩, hl⟩
  · rcases Go.Deep.open_slice Tryz.underlying28 hm with ⟨e, -⟩ | ⟨a, len, cap, m, n, D, Pl, e, hb, hl, hm, -, -, -⟩
    · replace e : [Value.slice a0 l.length c0] = [.slice none 0 0] := e
      simp at e; simp [e]
    · replace e : [Value.slice a0 l.length c0] = [.slice (some a) len cap] := e
      simp at e; omega
  · rw [← flat_ints]; exact hc
end Go.Proofs.YtccmnngeibpcmaaGreat.Tree
/- Append of a row to a row of the function's own, which tells too where the row lies behind it: where it lay, or in new memory; rows that grow and are copied (the document's own longer). -/
namespace Go.Proofs.YtccmnngeibpcmaaGreat.Tree
open Go.ChangeShapes Go.WideShapes Go.ChangeAt Go.RowKit
set_option linter.unusedVariables false
set_option linter.unusedSimpArgs false
set_option maxRecDepth 100000
attribute [local go_sem] Oper.semAt_some
section
variable {P : Program} {w : World} {base : Nat} {e : TypeId} {size : Nat}
theorem run_append_blk (base : Nat) (t ty e : TypeId) (i : TypeInfo) (z : Value) (size bytes : Nat) (ht : P.underlying t = some (.slice e)) (hi : P.info? e = some i) (hz : i.zero = some z)
    (hsize : i.size = size) (hby : i.bytes = bytes) (hzs : z.cells.size = size) (hsz : 0 < size)
    (v : Value) (n : Nat) (xs : List Value) (hown : w.ownsRow base e size v n xs)
    (a : Option Addr) (m c : Nat) (news : List Value) (hl : news.length = m * size) (hnews : CellsAt w a news) (h1 : ∀ u ∈ news, u.oneCell' = true)
    (h63 : n + m ≤ maxLen) (hbytes : (n + m) * bytes ≤ 140737488355328) (hbase : base ≤ w.heap.size) :
    ∃ v' w', (Builtin.append_ #[t, t] ty #[v, .slice a m c]).run P w = .ok v' w' ∧ w'.ownsRow base e size v' (n + m) (xs ++ news) ∧ w.grownBy w' v.ownBlock ∧ ∀ g, v'.ownBlock = some g → v.ownBlock = some g ∨ g = w.heap.size := by
  obtain ⟨v', w', hr, h2, h3⟩ := run_append_cells (P := P) (w := w) base t ty e i z size bytes ht hi hz hsize hby hzs hsz v n xs hown a m c news hl hnews h1 h63 hbytes hbase
  refine ⟨v', w', hr, h2, h3, ?_⟩
  cases a with
  | none =>
    have := run_append_noslice (P := P) (w := w) base t ty e i size ht hi v n xs hown c
    have hm : m = 0 := by
      rcases hnews with rfl | ⟨b, o, h, _⟩
      · have hl0 : m * size = 0 := hl.symm
        rcases Nat.mul_eq_zero.1 hl0 with h | h
        · exact h
        · omega
      · cases h
    subst hm
    rw [this] at hr
    cases hr
    intro g hg; exact .inl hg
  | some ad =>
    have hc : ∀ j u, news[j]? = some u → w.cell? (ad.add j) = some u := by
      rcases hnews with rfl | ⟨b, o, h, hc⟩
      · intro j u hj; simp at hj
      · cases h
        intro j u hj
        have := hc j u hj
        by_cases h0 : j = 0
        · subst h0; simpa [Addr.add] using this
        · simpa [Addr.add, h0] using this
    subst hsize
    subst hby
    have hsmall : n + m ≤ 9223372036854775807 := by simp only [maxLen] at h63; omega
    rcases hown.2 with ⟨rfl, rfl⟩ | ⟨g, cap, cur, rfl, hbg, hg, hnc, hcm, hcs, htake⟩
    · by_cases hm : m = 0
      · subst hm
        have hn : news = [] := List.eq_nil_of_length_eq_zero (by simpa using hl)
        subst hn
        have : (Builtin.append_ #[t, t] ty #[.slice none 0 0, .slice (some ad) 0 c]).run P w = .ok (.slice none 0 0) w := by
          simp [Builtin.append_, run_underlying ht, sizeOf, typeInfo, hi, Builtin.lenOf, Builtin.firstCells, loadCells, loadCellsFrom]
        rw [this] at hr
        cases hr
        intro g hg; exact .inl hg
      · have hr' := run_append_nil (P := P) w t ty e i z ht hi hz ad m c news hl hc (by omega) (by omega) (by have hb := hbytes; simp only [Nat.zero_add] at hb; omega)
        rw [hr'] at hr
        cases hr
        intro g hg; right; simpa [Value.ownBlock] using hg.symm
    · by_cases hroom : n + m ≤ cap
      · have hfit : n * i.size + news.length ≤ cur.size := by rw [hl, hcs, ← Nat.add_mul]; exact Nat.mul_le_mul_right _ hroom
        have hr' := run_append_room (P := P) w t ty e i ht hi g n cap cur hg ad m c news hl hc h1 hroom hfit
        rw [hr'] at hr
        cases hr
        intro g' hg'; left; simpa [Value.ownBlock] using hg'
      · have holds : ∀ j u, xs[j]? = some u → w.cell? ((⟨g, 0, none⟩ : Addr).add j) = some u := hown.cells (g := g) rfl
        have hr' := run_append_grow (P := P) w t ty e i z ht hi hz ⟨g, 0, none⟩ n cap xs hown.1 holds ad m c news hl hc (by omega) (by omega) (growslice_fits (by omega) hbytes)
        rw [hr'] at hr
        cases hr
        intro g' hg'; right; simpa [Value.ownBlock] using hg'.symm
theorem wp_append_blk {o : Oper} {a : Act} {K : Act → World → Prop} {Q : Exit → Act → World → Prop} (s x : Operand) (t : TypeId)
    (ho : o.op = .call { callee := .builtin .append, args := #[s, x], argTypes := #[t, t] })
    (base : Nat) (e : TypeId) (i : TypeInfo) (z : Value) (size bytes : Nat) (ht : P.underlying t = some (.slice e)) (hi : P.info? e = some i) (hz : i.zero = some z)
    (hsize : i.size = size) (hby : i.bytes = bytes) (hzs : z.cells.size = size) (hsz : 0 < size)
    (v : Value) (n : Nat) (xs : List Value) (hs : a.eval s = v) (hown : w.ownsRow base e size v n xs)
    (ad : Option Addr) (m c : Nat) (news : List Value) (hx : a.eval x = .slice ad m c) (hl : news.length = m * size) (hnews : CellsAt w ad news) (h1 : ∀ u ∈ news, u.oneCell' = true)
    (h63 : n + m ≤ maxLen) (hbytes : (n + m) * bytes ≤ 140737488355328) (hbase : base ≤ w.heap.size)
    (h : ∀ v' w', w'.ownsRow base e size v' (n + m) (xs ++ news) → w.grownBy w' v.ownBlock → (∀ g, v'.ownBlock = some g → v.ownBlock = some g ∨ g = w.heap.size) → K (a.put o.dst v') w') : Oper.wp P o a w K Q := by
  obtain ⟨v', w', hr, h2, h3, h4⟩ := run_append_blk (P := P) (w := w) base t o.type e i z size bytes ht hi hz hsize hby hzs hsz v n xs hown ad m c news hl hnews h1 h63 hbytes hbase
  unfold Oper.wp
  simp [execOp, ho, resolve, invoke, builtin, hs, hx, hr, Result.andThen]
  exact h v' w' h2 h3 h4
theorem wpList_append_blk {ops : Array Oper} {rest : List Oper} {o : Oper} {a : Act} {Q : Exit → Act → World → Prop} (hgd : o.guard = none) (s x : Operand) (t : TypeId)
    (ho : o.op = .call { callee := .builtin .append, args := #[s, x], argTypes := #[t, t] })
    (base : Nat) (e : TypeId) (i : TypeInfo) (z : Value) (size bytes : Nat) (ht : P.underlying t = some (.slice e)) (hi : P.info? e = some i) (hz : i.zero = some z)
    (hsize : i.size = size) (hby : i.bytes = bytes) (hzs : z.cells.size = size) (hsz : 0 < size)
    (v : Value) (n : Nat) (xs : List Value) (hs : a.eval s = v) (hown : w.ownsRow base e size v n xs)
    (ad : Option Addr) (m c : Nat) (news : List Value) (hx : a.eval x = .slice ad m c) (hl : news.length = m * size) (hnews : CellsAt w ad news) (h1 : ∀ u ∈ news, u.oneCell' = true)
    (h63 : n + m ≤ maxLen) (hbytes : (n + m) * bytes ≤ 140737488355328) (hbase : base ≤ w.heap.size)
    (h : ∀ v' w', w'.ownsRow base e size v' (n + m) (xs ++ news) → w.grownBy w' v.ownBlock → (∀ g, v'.ownBlock = some g → v.ownBlock = some g ∨ g = w.heap.size) → wpList P ops Q rest (a.put o.dst v') w') : wpList P ops Q (o :: rest) a w :=
  wpList_plain hgd fun _ hK => wp_append_blk s x t ho base e i z size bytes ht hi hz hsize hby hzs hsz v n xs hs hown ad m c news hx hl hnews h1 h63 hbytes hbase fun v' w' h2 h3 h4 => hK _ _ (h v' w' h2 h3 h4)
/-- A row in another block is left as it was. -/
theorem row_other {W W' : World} {base : Nat} {e : TypeId} {size n : Nat} {u : Value} {xs : List Value} {row : Option Nat} (h : W.ownsRow base e size u n xs) (hg : W.grownBy W' row) (hne : ∀ g, u.ownBlock = some g → row ≠ some g) : W'.ownsRow base e size u n xs := by
  refine ⟨h.1, ?_⟩
  rcases h.2 with h0 | ⟨g, cap, cur, rfl, hb, hh, h3⟩
  · exact .inl h0
  · refine .inr ⟨g, cap, cur, rfl, hb, ?_, h3⟩
    rw [hg.block g (Array.getElem?_eq_some_iff.1 hh).1 (hne g rfl).symm]
    exact hh
end
/-- Rows that are being made: out has those of F, the row that grows is q; the blocks are apart. -/
def LgI (N : Nat) (W0 : World) (F : List (List Int)) (us : List Value) (out : Value) (q : List Int) (row : Value) (W : World) : Prop :=
  W.ownsRow N 28 1 out F.length us ∧ EachOwn W N us F ∧ W.ownsRow N 3 1 row q.length (ints q) ∧ (∀ u ∈ us, ∀ g, u.ownBlock = some g → row.ownBlock ≠ some g) ∧ Below N W0 W
theorem EachOwn.lt {W : World} {N : Nat} {us : List Value} {F : List (List Int)} (h : EachOwn W N us F) (hl : us.length = F.length) : ∀ u ∈ us, ∀ g, u.ownBlock = some g → g < W.heap.size := by
  intro u hu g hg
  obtain ⟨k, hk, e⟩ := List.getElem_of_mem hu
  exact ((h k u F[k] (by simp [← e, hk]) (by simp [← hl, hk])).lt g hg).2
theorem own_len {W : World} {N e : Nat} {v : Value} {n : Nat} {us : List Value} (h : W.ownsRow N e 1 v n us) : us.length = n := by have := h.1; simpa using this
/-- A row in memory that lies below is as it was behind an append to what is new. -/
theorem row_new {W w1 : World} {o : Obj} {N e s n : Nat} {u : Value} {xs : List Value} (h : W.ownsRow N e s u n xs) (hg : (W.alloc o).grownBy w1 (some W.heap.size)) : w1.ownsRow N e s u n xs :=
  row_other (h.alloc o) hg (fun g hg' e => by cases e; exact absurd (h.lt _ hg').2 (Nat.lt_irrefl _))
theorem LgI.start {N : Nat} {W0 W w1 : World} {F : List (List Int)} {us : List Value} {out row : Value} {q : List Int} {o : Obj} (hN : N ≤ W0.heap.size) (h1 : W.ownsRow N 28 1 out F.length us) (h2 : EachOwn W N us F) (hb : Below N W0 W)
    (hown : w1.ownsRow W.heap.size 3 1 row q.length (ints q)) (hg : (W.alloc o).grownBy w1 (some W.heap.size)) : LgI N W0 F us out q row w1 := by
  have hNW : N ≤ W.heap.size := Nat.le_trans hN hb.size
  refine ⟨row_new h1 hg, fun i u r hu hr => row_new (h2 i u r hu hr) hg, row_base hown hNW, fun u hu g hg1 hg2 => ?_, (hb.alloc hNW o).grown hg (by simp; omega) (fun k e => by cases e; exact hNW)⟩
  have e1 := h2.lt (own_len h1) u hu g hg1
  have e2 := (hown.lt g hg2).1
  omega
theorem LgI.grow {N : Nat} {W0 W w1 : World} {F : List (List Int)} {us : List Value} {out row row' : Value} {q : List Int} {x : Int} {o : Obj} (hN : N ≤ W0.heap.size) (h : LgI N W0 F us out q row W)
    (hown : w1.ownsRow N 3 1 row' (q ++ [x]).length (ints (q ++ [x]))) (hg : (W.alloc o).grownBy w1 row.ownBlock) (hblk : ∀ g, row'.ownBlock = some g → row.ownBlock = some g ∨ g = (W.alloc o).heap.size) : LgI N W0 F us out (q ++ [x]) row' w1 := by
  obtain ⟨h1, h2, h3, h4, hb⟩ := h
  have hNW : N ≤ W.heap.size := Nat.le_trans hN hb.size
  have hmem : ∀ (i : Nat) (u : Value), us[i]? = some u → u ∈ us := fun i u hu => List.mem_of_getElem? hu
  refine ⟨row_kept (h1.alloc o) hg (own_is (h3.alloc o) 28 (by decide)), fun i u r hu hr => row_other ((h2 i u r hu hr).alloc o) hg (h4 u (hmem i u hu)), hown, fun u hu g hg1 hg2 => ?_, (hb.alloc hNW o).grown hg (by simp; omega) (own_ge h3)⟩
  rcases hblk g hg2 with e | e
  · exact h4 u hu g hg1 e
  · have := h2.lt (own_len h1) u hu g hg1
    simp at e; omega
theorem LgI.mid {N : Nat} {W0 W w2 : World} {F : List (List Int)} {us : List Value} {out row : Value} {q : List Int} {o : Obj} (hN : N ≤ W0.heap.size) (h : LgI N W0 F us out q row W) (hg : (W.alloc o).grownBy w2 (some W.heap.size)) : LgI N W0 F us out q row w2 := by
  obtain ⟨h1, h2, h3, h4, hb⟩ := h
  have hNW : N ≤ W.heap.size := Nat.le_trans hN hb.size
  exact ⟨row_new h1 hg, fun i u r hu hr => row_new (h2 i u r hu hr) hg, row_new h3 hg, h4, (hb.alloc hNW o).grown hg (by simp; omega) (fun k e => by cases e; exact hNW)⟩
theorem LgI.put {N : Nat} {W0 W w2 w4 : World} {F : List (List Int)} {us : List Value} {out out' row cv : Value} {q : List Int} {o : Obj} (hN : N ≤ W0.heap.size) (h0 : LgI N W0 F us out q row W) (h : LgI N W0 F us out q row w2) (hc : w2.ownsRow W.heap.size 3 1 cv q.length (ints q))
    (hown : w4.ownsRow N 28 1 out' (F.length + 1) (us ++ [cv])) (hg : (w2.alloc o).grownBy w4 out.ownBlock) : LgI N W0 (F ++ [q]) (us ++ [cv]) out' q row w4 := by
  have hNW : N ≤ W.heap.size := Nat.le_trans hN h0.2.2.2.2.size
  have hlt := fun g hg => (h0.2.2.1.lt g hg).2
  obtain ⟨h1, h2, h3, h4, hb⟩ := h
  have hNW2 : N ≤ w2.heap.size := Nat.le_trans hN hb.size
  have K : ∀ {u : Value} {n : Nat} {xs : List Value}, w2.ownsRow N 3 1 u n xs → w4.ownsRow N 3 1 u n xs := fun hu => row_kept (hu.alloc o) hg (own_is (h1.alloc o) 3 (by decide))
  have hl := own_len h1
  refine ⟨by simpa using hown, fun i u r hu hr => ?_, K h3, fun u hu g hg1 hg2 => ?_, (hb.alloc hNW2 o).grown hg (by simp; omega) (own_ge h1)⟩
  · by_cases hi : i < F.length
    · rw [List.getElem?_append_left (by omega)] at hu
      rw [List.getElem?_append_left hi] at hr
      exact K (h2 i u r hu hr)
    · rw [List.getElem?_append_right (by omega)] at hu
      rw [List.getElem?_append_right (by omega)] at hr
      have e : i - us.length = 0 := by
        have := (List.getElem?_eq_some_iff.1 hu).1
        simp at this; omega
      have e2 : i - F.length = 0 := by omega
      rw [e] at hu
      rw [e2] at hr
      simp at hu hr
      subst hu hr
      exact K (row_base hc hNW)
  · rcases List.mem_append.1 hu with hu | hu
    · exact h4 u hu g hg1 hg2
    · obtain rfl := List.mem_singleton.1 hu
      have e1 := (hc.lt g hg1).1
      have e2 := hlt g hg2
      omega
/-- The rows of one more, once so many of it are told. -/
def lgF (R : List (List Int)) (i : Int) (mn c k : Nat) (r : List Int) (b : Nat) : List (List Int) := furL (R.take k) i mn c ++ (List.range b).map fun j => r ++ List.replicate (mn + j) i
theorem lgF_zero (R : List (List Int)) (i : Int) (mn c k : Nat) (r : List Int) : lgF R i mn c k r 0 = furL (R.take k) i mn c := by simp [lgF]
theorem lgF_full {R : List (List Int)} {i : Int} {mn c k : Nat} {r : List Int} (h : R[k]? = some r) : lgF R i mn c k r c = furL (R.take (k + 1)) i mn c := by
  unfold lgF furL
  rw [List.take_add_one, h, List.flatMap_append]
  simp
theorem lgF_succ (R : List (List Int)) (i : Int) (mn c k : Nat) (r : List Int) (b : Nat) : lgF R i mn c k r (b + 1) = lgF R i mn c k r b ++ [r ++ List.replicate (mn + b) i] := by
  unfold lgF
  rw [List.range_succ, List.map_append, List.append_assoc]
  rfl
theorem lgF_len (R : List (List Int)) (i : Int) (mn c k : Nat) (r : List Int) (b : Nat) (hk : k ≤ R.length) : (lgF R i mn c k r b).length = k * c + b := by
  unfold lgF
  rw [List.length_append, furL_len]
  simp [Nat.min_eq_left hk]
theorem cells_lit (W : World) (cs : List Value) (t : TypeId) : CellsAt (W.alloc (.cells cs.toArray t)) (some ⟨W.heap.size, 0, none⟩) cs := by
  refine .inr ⟨W.heap.size, 0, rfl, fun j u hj => ?_⟩
  have := World.alloc_heap_new W (.cells cs.toArray t)
  simp only [World.cell?, this, Nat.zero_add]
  simpa using hj
theorem lit_none (W : World) : (W.alloc (.cells #[] 3)).ownsRow W.heap.size 3 1 (.slice (some ⟨W.heap.size, 0, none⟩) 0 0) 0 [] := by
  have := World.ownsRow_lit (base := W.heap.size) (e := 3) (size := 1) W #[] 0 (by omega) (by unfold maxLen; omega) rfl
  simpa using this
theorem lcell {W W' : World} {a : Addr} {v : Value} (h : W.cell? a = some v) (hb : Below W.heap.size W W') : W'.cell? a = some v := bcell hb (World.block_lt_of_cell? W _ h) h
set_option maxHeartbeats 4000000 in
theorem rlonger_any (rv sv : Value) (vs : List Value) (R : List (List Int)) (s : Sp) (i : Int) (mn c : Nat) (hmn : s.min = mn) (hc : s.max + 1 = mn + c) (hmn1 : 1 ≤ mn) (h4 : mn + c ≤ 4) (hR : R.length ≤ 1000000) (hRr : ∀ r ∈ R, r.length ≤ 1000) (w : World) (h : RowsV w rv vs R) :
    Calls Tryz.prog 32 #[rv, .int .i64 i, spV s sv] w fun e w' => ∃ v, e = .returned v ∧ OwnRows w' w.heap.size v (furL R i mn c) ∧ Below w.heap.size w w' := by
  obtain ⟨⟨ar, cr, rfl, -⟩, -⟩ := id h
  obtain ⟨m, hm⟩ : ∃ m, R.length = m := ⟨_, rfl⟩
  rw [hm] at h hR ⊢
  have hB0 := kept_new w (.cells #[.bool s.neg, .int .i64 s.kind, .int .i64 s.min, .int .i64 s.max, .bool s.strict, sv] 45)
  have hsb := SpBox.new w s sv
  obtain ⟨i0, hi, hz0, hz1, hz2⟩ := info_parts Tryz.info3
  obtain ⟨j0, hj, hy0, hy1, hy2⟩ := info_parts Tryz.info28
  replace hi := Lib.hid hi
  replace hj := Lib.hid hj
  obtain ⟨mx, hmx⟩ : ∃ mx, s.max = mx := ⟨_, rfl⟩
  rw [hmx] at hc
  replace hmn := Lib.hid hmn
  replace hmx := Lib.hid hmx
  go_enter Tryz.func32, Tryz.ntmps32
  go_wp2
  generalize w.alloc (.cells #[.bool s.neg, .int .i64 s.kind, .int .i64 s.min, .int .i64 s.max, .bool s.strict, sv] 45) = W0 at *
  have hO0 : OwnRows W0 W0.heap.size (.slice none 0 0) (furL (R.take 0) i mn c) := ⟨[], by simpa [furL] using World.ownsRow_nil _ _ _ _, fun i u r hu => by simp at hu⟩
  have hBw := Lib.hid (fun X (hX : Below W0.heap.size W0 X) => (kept_trans hB0 hX : Below w.heap.size w X))
  have hSb := Lib.hid (fun X (hX : Below W0.heap.size W0 X) => (hsb.later hX : SpBox w.heap.size s sv X))
  have hsz := hB0.size
  clear hB0 hsb
  replace h := Lib.hid h
  replace hm := Lib.hid hm
  go_loopw [7, 8] (fun u7 u8 wr => ∃ k : Nat, k ≤ m ∧ u8 = .int .i64 k ∧ Hid (OwnRows wr W0.heap.size u7 (furL (R.take k) i mn c)) ∧ Hid (Below W0.heap.size W0 wr)) (fun _ u8 _ => m - (intOf u8).toNat)
  case atStart => exact ⟨0, Nat.zero_le _, rfl, Lib.hid hO0, Lib.hid (Below.refl _ _)⟩
  case round =>
    clear hO0
    obtain ⟨k, hk, rfl, hO, hB⟩ := hrel
    by_cases hlt : k < m
    · have hlti : (k : Int) < m := by omega
      obtain ⟨r, hr⟩ : ∃ r, R[k]? = some r := ⟨_, List.getElem?_eq_getElem (by have := hm.out; omega)⟩
      have hr1000 := hRr r (List.mem_of_getElem? hr)
      obtain ⟨us0, h1, h2⟩ := hO.out
      have hV := h.out.later (hBw.out _ hB.out)
      obtain ⟨u, hu, mu⟩ := hV.at hr
      obtain ⟨b, o, rfl, q1⟩ := hV.cell hu
      obtain ⟨au, cu, rfl, hcu⟩ := mu
      obtain ⟨l, hl⟩ : ∃ l, r.length = l := ⟨_, rfl⟩
      rw [hl] at q1 hr1000
      have q2 := lcell q1 (kept_new wr (.cells #[] 3))
      have hcu' := hcu.later (kept_new wr (.cells #[] 3))
      have hlit := lit_none wr
      have hst := Lib.hid (fun (w1 : World) (row : Value) (hown : w1.ownsRow wr.heap.size 3 1 row r.length (ints r)) (hg : (wr.alloc (.cells #[] 3)).grownBy w1 (some wr.heap.size)) => (LgI.start (Nat.le_refl _) h1 h2 hB.out hown hg))
      have hr' := Lib.hid hr
      clear hV hu hcu h1 h2 hO hr hlt
      go_wp2_with (at_builtin; refine wpList_append_blk rfl (.tmp 17) (.tmp 21) 28 rfl wr.heap.size 3 i0 (.int .i64 0) 1 8 Tryz.underlying28 hi.out hz0 hz1 hz2 rfl (by decide) _ 0 [] rfl hlit au l cu (ints r) rfl (by simp [hl]) hcu' (ints_one r) (by unfold maxLen; omega) (by omega) (by simp) ?_; intro row w1 hown hgrow hblk; rw [Nat.zero_add, List.nil_append, ← hl] at hown; replace hst := hst.out _ _ hown hgrow; clear hown hgrow hblk)
      have hlg : LgI W0.heap.size W0 (lgF R i mn c k r 0) us0 u7 r row w1 := by rw [lgF_zero]; exact hst
      replace hlg := Lib.hid hlg
      clear hst q1 q2 hcu' hlit
      go_loopw [7, 9, 10] (fun u7 u9 u10 wr => ∃ (n : Nat) (us : List Value), n ≤ mx ∧ u10 = .int .i64 ((n : Int) + 1) ∧ Hid (LgI W0.heap.size W0 (lgF R i mn c k r (n + 1 - mn)) us u7 (r ++ List.replicate n i) u9 wr)) (fun _ _ u10 _ => mn + c - (intOf u10).toNat)
      case atStart => exact ⟨0, us0, by omega, rfl, by rw [show 0 + 1 - mn = 0 by omega]; simpa using hlg⟩
      case round =>
        clear hlg
        obtain ⟨n, us, hn, rfl, hI⟩ := hrel
        have hBn := hI.out.2.2.2.2
        obtain ⟨-, -, z2, z3, -, -⟩ := (hSb.out _ hBn).cells
        rw [hmn.out] at z2
        rw [hmx.out] at z3
        by_cases hnm : (n : Int) + 1 ≤ mx
        · have hFl : (lgF R i mn c k r (n + 1 - mn)).length ≤ 5000000 := by
            rw [lgF_len _ _ _ _ _ _ _ (by have := hm.out; omega)]
            have : k * c ≤ 1000000 * 4 := Nat.mul_le_mul (by omega) (by omega)
            omega
          obtain ⟨Fl, hFe⟩ : ∃ Fl, (lgF R i mn c k r (n + 1 - mn)).length = Fl := ⟨_, rfl⟩
          rw [hFe] at hFl
          have h3 := hI.out.2.2.1
          have hgr := Lib.hid (fun (w1 : World) (row' : Value) hown hg hblk => @LgI.grow _ _ _ w1 _ _ _ _ row' _ i (.cells #[.int .i64 i] 3) (Nat.le_refl _) hI.out hown hg hblk)
          obtain ⟨q, hq⟩ : ∃ q, r ++ List.replicate n i = q := ⟨_, rfl⟩
          have hql : q.length ≤ 1010 := by rw [← hq]; simp; omega
          have hq2 : r ++ List.replicate (n + 1) i = q ++ [i] := by rw [← hq, List.append_assoc, ← List.replicate_succ']
          rw [hq] at h3 hgr
          obtain ⟨lq, hlq⟩ : ∃ lq, q.length = lq := ⟨_, rfl⟩
          rw [hlq] at h3 hql
          have hlt := cells_lit wr [.int .i64 i] 3
          have h3' := h3.alloc (.cells #[.int .i64 i] 3)
          have hszw : W0.heap.size ≤ (wr.alloc (.cells #[.int .i64 i] 3)).heap.size := by have := hBn.size; simp; omega
          clear z2 h3 hI
          obtain ⟨q', hq'⟩ : ∃ q', q ++ [i] = q' := ⟨_, rfl⟩
          have hints : ints q' = ints q ++ [.int .i64 i] := by rw [← hq']; simp [ints]
          have hlq' : q'.length = lq + 1 := by rw [← hq']; simp [hlq]
          rw [hq'] at hgr hq2
          replace hq := Lib.hid hq
          replace hq2 := Lib.hid hq2
          replace hq' := Lib.hid hq'
          replace hlq := Lib.hid hlq
          replace hFe := Lib.hid hFe
          replace hints := Lib.hid hints
          replace hBn := Lib.hid hBn
          by_cases hge : (mn : Int) ≤ (n : Int) + 1
          · have hFs : lgF R i mn c k r (n + 1 + 1 - mn) = lgF R i mn c k r (n + 1 - mn) ++ [q'] := by
              rw [show n + 1 + 1 - mn = (n + 1 - mn) + 1 by omega, lgF_succ, show mn + (n + 1 - mn) = n + 1 by omega, hq2.out]
            replace hFs := Lib.hid hFs
            go_wp2_with (first
              | (at_builtin; refine wpList_append_blk rfl (.tmp 29) (.tmp 31) 28 rfl W0.heap.size 3 i0 (.int .i64 0) 1 8 Tryz.underlying28 hi.out hz0 hz1 hz2 rfl (by decide) u9 lq (ints q) rfl h3' (some ⟨wr.heap.size, 0, none⟩) 1 1 [.int .i64 i] rfl rfl hlt (by simp [Value.oneCell']) (by unfold maxLen; omega) (by omega) hszw ?_; intro row2 w2 hown hgrow hblk; have hI2 := hgr.out w2 row2 (by rw [hints.out, hlq']; exact hown) hgrow hblk; obtain ⟨a2, c2, rfl, hc2⟩ := cells_of_row hI2.2.2.1; rw [hlq'] at hI2 ⊢; obtain ⟨-, -, z2, -, -, -⟩ := (hSb.out _ hI2.2.2.2.2).cells; rw [hmn.out] at z2; have hlit := lit_none w2; have hc2' := hc2.later (kept_new w2 (.cells #[] 3)); replace hI2 := Lib.hid hI2; clear hown hgrow hblk hc2 hlt h3')
              | (at_builtin; refine wpList_append_blk rfl (.tmp 38) (.tmp 39) 28 rfl w2.heap.size 3 i0 (.int .i64 0) 1 8 Tryz.underlying28 hi.out hz0 hz1 hz2 rfl (by decide) _ 0 [] rfl hlit a2 (lq + 1) c2 (ints q') rfl (by simp [hlq']) hc2' (ints_one q') (by unfold maxLen; omega) (by omega) (by simp) ?_; intro cv w3 hownc hgrow hblk; rw [Nat.zero_add, List.nil_append] at hownc; have hI3 := LgI.mid (Nat.le_refl _) hI2.out hgrow; obtain ⟨a4, c4, rfl, -⟩ := cells_of_row hownc; have hh1 := hI3.1.alloc (.cells #[.slice a4 (lq + 1) c4] 28); rw [hFe.out] at hh1; have hcl := cells_lit w3 [.slice a4 (lq + 1) c4] 28; have hszw3 : W0.heap.size ≤ (w3.alloc (.cells #[.slice a4 (lq + 1) c4] 28)).heap.size := (by have := hI3.2.2.2.2.size; simp; omega); replace hI3 := Lib.hid hI3; replace hownc := Lib.hid hownc; clear hgrow hblk z2 hlit hc2')
              | (at_builtin; refine wpList_append_blk rfl (.tmp 37) (.tmp 41) 34 rfl W0.heap.size 28 j0 (.slice none 0 0) 1 24 Tryz.underlying34 hj.out hy0 hy1 hy2 rfl (by decide) u7 Fl us rfl hh1 (some ⟨w3.heap.size, 0, none⟩) 1 1 [.slice a4 (lq + 1) c4] rfl rfl hcl (by simp [Value.oneCell']) (by unfold maxLen; omega) (by omega) hszw3 ?_; intro out2 w4 hown4 hgrow4 hblk4; have hI4 := LgI.put (Nat.le_refl _) hI2.out hI3.out (by rw [hlq']; exact hownc.out) (by rw [hFe.out]; exact hown4) hgrow4; replace hI4 := Lib.hid hI4; clear hown4 hgrow4 hblk4 hcl hh1))
            go_roundw
            case rel => exact ⟨n + 1, _, hnm, by go_num, by rw [hFs.out, hq2.out]; exact hI4⟩
            case measure => simp [intOf]; omega
          · have hFs : lgF R i mn c k r (n + 1 + 1 - mn) = lgF R i mn c k r (n + 1 - mn) := by
              rw [show n + 1 + 1 - mn = 0 by omega, show n + 1 - mn = 0 by omega]
            replace hFs := Lib.hid hFs
            go_wp2_with (at_builtin; refine wpList_append_blk rfl (.tmp 29) (.tmp 31) 28 rfl W0.heap.size 3 i0 (.int .i64 0) 1 8 Tryz.underlying28 hi.out hz0 hz1 hz2 rfl (by decide) u9 lq (ints q) rfl h3' (some ⟨wr.heap.size, 0, none⟩) 1 1 [.int .i64 i] rfl rfl hlt (by simp [Value.oneCell']) (by unfold maxLen; omega) (by omega) hszw ?_; intro row2 w2 hown hgrow hblk; have hI2 := hgr.out w2 row2 (by rw [hints.out, hlq']; exact hown) hgrow hblk; obtain ⟨-, -, z2, -, -, -⟩ := (hSb.out _ hI2.2.2.2.2).cells; rw [hmn.out] at z2; replace hI2 := Lib.hid hI2; clear hown hgrow hblk hlt h3')
            go_roundw
            case rel => exact ⟨n + 1, _, hnm, by go_num, by rw [hFs.out, hq2.out]; exact hI2⟩
            case measure => simp [intOf]; omega
        · have hnx : (n : Int) = mx := by omega
          have hnc : n + 1 - mn = c := by omega
          have hout := hI.out.1
          have heach := hI.out.2.1
          rw [hnc, lgF_full hr'.out] at hout heach
          have hO' : OwnRows wr W0.heap.size u7 (furL (R.take (k + 1)) i mn c) := ⟨us, hout, heach⟩
          replace hO' := Lib.hid hO'
          replace hBn := Lib.hid hBn
          clear hI hout heach z2
          go_wp2_with fail
          go_roundw
          case rel => exact ⟨k + 1, by omega, by go_num, hO', hBn⟩
          case measure => simp [intOf]; omega
    · obtain rfl : k = m := by omega
      have hO' := hO.out
      rw [List.take_of_length_le (by rw [hm.out]; exact Nat.le_refl _)] at hO'
      have hBx := hBw.out _ hB.out
      replace hO' := Lib.hid (hO'.base hsz)
      replace hBx := Lib.hid hBx
      clear hO hB
      go_wp2_with fail
      go_ret
      exact ⟨_, rfl, hO'.out, hBx.out⟩
end Go.Proofs.YtccmnngeibpcmaaGreat.Tree
/- The document's own Rows. -/
namespace Go.Proofs.YtccmnngeibpcmaaGreat.Tree
open Go.ChangeShapes Go.WideShapes Go.ChangeAt Go.RowKit
set_option linter.unusedVariables false
set_option linter.unusedSimpArgs false
set_option maxRecDepth 100000
attribute [local go_sem] Oper.semAt_some
theorem take_snoc {ss : List Sp} {i : Nat} {s : Sp} (h : ss[i]? = some s) : ss.take (i + 1) = ss.take i ++ [s] := by
  rw [List.take_add_one, h]; rfl
theorem rowsP_take {ss : List Sp} {i : Nat} {s : Sp} (h : ss[i]? = some s) : rowsP (ss.take (i + 1)) = if s.neg = true then rowsP (ss.take i) else stepR (rowsP (ss.take i)) (i, s) := by
  have hi := (List.getElem?_eq_some_iff.1 h).1
  rw [take_snoc h]
  unfold rowsP
  rw [posS_append, List.length_take, Nat.min_eq_left (by omega), Nat.zero_add]
  split
  · rename_i hn
    have : posS [s] i = [] := by simp [posS, hn]
    rw [this, List.append_nil]
  · rename_i hn
    have : posS [s] i = [(i, s)] := by simp [posS, hn]
    rw [this, List.foldl_append]
    rfl
theorem GoodP.take_bd {ss : List Sp} (h : GoodP ss) (i : Nat) : (rowsP (ss.take i)).length ≤ 81 ∧ ∀ r ∈ rowsP (ss.take i), r.length ≤ 12 := by
  have h4 : (posS (ss.take i) 0).length ≤ 4 := by
    have h1 := h.few
    have h2 : posS ss 0 = posS (ss.take i) 0 ++ posS (ss.drop i) (0 + (ss.take i).length) := by rw [← posS_append, List.take_append_drop]
    rw [h2, List.length_append] at h1
    omega
  have hP : ∀ x ∈ posS (ss.take i) 0, 1 ≤ x.2.min ∧ x.2.min ≤ x.2.max ∧ x.2.max ≤ 3 := fun x hx => by
    obtain ⟨-, h2, h3⟩ := posS_mem hx
    exact h.pos _ (List.mem_of_mem_take (List.mem_of_getElem? h2)) h3
  obtain ⟨h1, h2⟩ := rows_bd (posS (ss.take i) 0) hP [[]] 1 0 (by simp) (by simp)
  have h3 : 3 ^ (posS (ss.take i) 0).length ≤ 3 ^ 4 := Nat.pow_le_pow_right (by omega) h4
  unfold rowsP
  exact ⟨by omega, fun r hr => by have := h2 r hr; omega⟩
theorem may_R {v : Value} {L : List (Sp × Value)} (win : Int) (hg : great (L.map (·.1)) = false) (w : World) (h : SpsL w v L) :
    Calls Tryz.prog 8 #[ptV v win] w fun e w' => e = .returned (.bool (mayB (L.map (·.1)) win)) ∧ Below w.heap.size w w' := by
  obtain ⟨hS, h40, h20⟩ := Small.of_great hg
  obtain ⟨a, c, rfl⟩ := h.lit rfl
  have hl : L.length ≤ 1000 := Nat.le_trans (by simpa using h40) (by omega)
  exact refMay_L a _ c win L hS.short w rfl hl (fun x hx => h20 x.1 (List.mem_map_of_mem hx)) h
set_option maxHeartbeats 2000000 in
theorem refRows_R {v : Value} {L : List (Sp × Value)} (win : Int) (hg : great (L.map (·.1)) = false) (w : World) (h : SpsL w v L) :
    Calls Tryz.prog 12 #[ptV v win] w fun e w' => ∃ u, e = .returned u ∧ OwnRows w' w.heap.size u (rowsR (L.map (·.1)) win) ∧ Below w.heap.size w w' := by
  have hb := kept_new w (.cells #[v, .int .i64 win] 24)
  have hp : PK w v win (w.alloc (.cells #[v, .int .i64 win] 24)) := ⟨PtBox.new w _ _, hb⟩
  have c0 := hp.1.c0
  have c1 := hp.1.c1
  have hM := may_R win hg _ (h.later hb)
  obtain ⟨n, hn⟩ : ∃ n, L.length = n := ⟨_, rfl⟩
  obtain ⟨a, c, rfl⟩ := h.lit hn
  obtain ⟨m, hmm⟩ : ∃ m, mayB (L.map (·.1)) win = m := ⟨_, rfl⟩
  unfold rowsR
  rw [hmm] at hM ⊢
  cases m with
  | false =>
    replace hM := Lib.hid hM
    replace hb := Lib.hid hb
    clear hp h hg hn hmm
    go_enter Tryz.func12, Tryz.ntmps12
    go_wp2_with ((with_reducible refine hM.out.mono ?_); rintro e w2 ⟨rfl, hb2⟩)
    go_ret
    exact ⟨_, rfl, ⟨[], World.ownsRow_nil _ _ _ _, fun i u r hu => by simp at hu⟩, kept_trans hb.out hb2⟩
  | true =>
    have hG := may_good hmm
    obtain ⟨ss, hss⟩ : ∃ ss, L.map (·.1) = ss := ⟨_, rfl⟩
    have hat := Lib.hid (fun (i : Nat) (s : Sp) (sv : Value) (hx : L[i]? = some (s, sv)) => show (L.map (·.1))[i]? = some s by simp [hx])
    rw [hss] at hG hat ⊢
    have hsl : ss.length = n := by rw [← hss]; simpa using hn
    have hn41 : n ≤ 41 := by have h1 := (Small.of_great hg).2.1; simp at h1; omega
    replace hM := Lib.hid hM
    replace h := Lib.hid h
    replace hn := Lib.hid hn
    replace hsl := Lib.hid hsl
    clear hb hg hmm hss
    go_enter Tryz.func12, Tryz.ntmps12
    go_wp2_with ((with_reducible refine hM.out.mono ?_); rintro e w2 ⟨rfl, hb2⟩)
    replace hp := hp.later hb2
    have hk := kept_new w2 (.cells #[.slice none 0 0] 28)
    have hP0 := Lib.hid (hp.later hk)
    have hO0 : OwnRows (w2.alloc (.cells #[.slice none 0 0] 28)) w.heap.size (.slice (some ⟨w2.heap.size, 0, none⟩) 1 1) (rowsP (ss.take 0)) := ⟨[.slice none 0 0], World.ownsRow_lit (base := w.heap.size) (e := 28) (size := 1) w2 #[.slice none 0 0] 1 hp.2.size (by unfold maxLen; omega) rfl, fun i u r hu hr => by
      have hi := (List.getElem?_eq_some_iff.1 hu).1
      obtain rfl : i = 0 := by simp at hi; exact hi
      simp at hu; subst hu
      rw [show rowsP (ss.take 0) = [[]] from rfl] at hr
      have : r = [] := by simpa using hr.symm
      subst this
      simpa using World.ownsRow_nil _ _ _ _⟩
    replace hO0 := Lib.hid hO0
    clear hp hk c0 c1 hM hb2
    go_loopw [3, 4] (fun u3 u4 wr => ∃ i : Nat, i ≤ n ∧ u4 = .int .i64 i ∧ Hid (OwnRows wr w.heap.size u3 (rowsP (ss.take i))) ∧ Hid (PK w (.slice a n c) win wr)) (fun _ u4 _ => n - (intOf u4).toNat)
    case atStart => exact ⟨0, Nat.zero_le _, rfl, hO0, hP0⟩
    case round =>
      clear hO0 hP0
      obtain ⟨i, hi, rfl, hO, hP⟩ := hrel
      have c0 := hP.out.1.c0
      have c1 := hP.out.1.c1
      by_cases hlt : i < n
      · have hlti : (i : Int) < n := by omega
        obtain ⟨⟨s, sv⟩, hx⟩ : ∃ x, L[i]? = some x := ⟨_, List.getElem?_eq_getElem (by have := hn.out; omega)⟩
        obtain ⟨b, o, rfl, z0, z1, z2, z3, z4, z5, hv⟩ := (h.out.later hP.out.2).step hn.out hx
        obtain ⟨ml, hml⟩ : ∃ ml, s.cs.length = ml := ⟨_, rfl⟩
        obtain ⟨asv, csv, rfl⟩ := hv.lit hml
        have hxs := hat.out i s _ hx
        have hT := rowsP_take hxs
        have hpos := hG.pos s (List.mem_of_getElem? hxs)
        have hbd := hG.take_bd i
        clear hv hml hx
        obtain ⟨au, nu, cu, rfl⟩ := hO.out.lit
        obtain ⟨neg, hneg⟩ : ∃ g, s.neg = g := ⟨_, rfl⟩
        rw [hneg] at z0 hT hpos
        cases neg with
        | true =>
          rw [if_pos rfl] at hT
          replace hT := Lib.hid hT
          clear hneg hpos hbd
          go_wp2_with fail
          go_roundw
          case rel => exact ⟨i + 1, hlt, by go_num, by rw [hT.out]; exact hO, hP⟩
          case measure => simp [intOf]; omega
        | false =>
          rw [if_neg (by simp)] at hT
          obtain ⟨p1, p2, p3⟩ := hpos rfl
          obtain ⟨vs, hV⟩ := hO.out.at
          have hL := rlonger_any (.slice au nu cu) (.slice asv ml csv) vs (rowsP (ss.take i)) s i s.min.toNat (s.max + 1 - s.min).toNat (by omega) (by omega) (by omega) (by omega) (by omega) (fun r hr => by have := hbd.2 r hr; omega) wr hV
          rw [show furL (rowsP (ss.take i)) i s.min.toNat (s.max + 1 - s.min).toNat = rowsP (ss.take (i + 1)) from hT.symm] at hL
          simp only [spV, hneg] at hL
          replace hL := Lib.hid hL
          replace hT := Lib.hid hT
          replace hneg := Lib.hid hneg
          clear hpos hbd hV hO
          go_wp2_with ((with_reducible refine hL.out.mono ?_); rintro e w3 ⟨u, rfl, ho3, hb3⟩)
          go_roundw
          case rel => exact ⟨i + 1, hlt, by go_num, Lib.hid (ho3.base hP.out.2.size), Lib.hid (hP.out.later hb3)⟩
          case measure => simp [intOf]; omega
      · obtain rfl : i = n := by omega
        have hO' := hO.out
        rw [List.take_of_length_le (by rw [hsl.out]; exact Nat.le_refl _)] at hO'
        replace hO' := Lib.hid hO'
        clear hO hG
        go_wp2_with fail
        go_ret
        exact ⟨_, rfl, by simpa using hO'.out, hP.out.2⟩
end Go.Proofs.YtccmnngeibpcmaaGreat.Tree
/- Pure facts of UnrollGuards: what a row leaves out, place by place; how often each step's number was told. -/
namespace Go.Proofs.YtccmnngeibpcmaaGreat.Tree
open Go.ChangeShapes Go.WideShapes Go.ChangeAt Go.RowKit
set_option linter.unusedVariables false
set_option linter.unusedSimpArgs false
set_option maxRecDepth 100000
/-- A row from a step on: between two numbers of it stand negative steps alone. -/
def Cov (ss : List Sp) : Nat → List Int → Prop
  | f, [] => ∀ (j : Nat) (s : Sp), f ≤ j → ss[j]? = some s → s.neg = true
  | f, y :: q => ∃ (i : Nat) (s : Sp), y = i ∧ ss[i]? = some s ∧ s.neg = false ∧ (i + 1 = f ∨ f ≤ i ∧ ∀ (j : Nat) (t : Sp), f ≤ j → j < i → ss[j]? = some t → t.neg = true) ∧ Cov ss (i + 1) q
theorem cov_back {ss : List Sp} {i : Nat} {s : Sp} (hs : ss[i]? = some s) (hn : s.neg = true) {q : List Int} (h : Cov ss (i + 1) q) : Cov ss i q := by
  cases q with
  | nil =>
    intro j t hj ht
    by_cases e : j = i
    · subst e; rw [hs] at ht; cases ht; exact hn
    · exact h j t (by omega) ht
  | cons y q =>
    obtain ⟨k, t, e, ht, hp, hk, hq⟩ := h
    refine ⟨k, t, e, ht, hp, .inr ?_, hq⟩
    rcases hk with hk | ⟨hk, hb⟩
    · obtain rfl : k = i := by omega
      rw [hs] at ht; cases ht
      rw [hn] at hp; cases hp
    · refine ⟨by omega, fun j u hj hjk hu => ?_⟩
      by_cases e : j = i
      · subst e; rw [hs] at hu; cases hu; exact hn
      · exact hb j u (by omega) hjk hu
theorem cov_rep {ss : List Sp} {i : Nat} {s : Sp} (hs : ss[i]? = some s) (hn : s.neg = false) {q : List Int} (h : Cov ss (i + 1) q) (m : Nat) : Cov ss (i + 1) (List.replicate m (i : Int) ++ q) := by
  induction m with
  | zero => simpa using h
  | succ m ih => exact ⟨i, s, rfl, hs, hn, .inl rfl, ih⟩
theorem cov_of (ss : List Sp) : ∀ (r : List Sp) (i : Nat) (q : List Int), ss.drop i = r → (∀ s ∈ r, s.neg = false → 1 ≤ s.min) → restL r i q = true → Cov ss i q := by
  intro r
  induction r with
  | nil =>
    intro i q hd _ h
    obtain rfl : q = [] := by simpa [restL] using h
    intro j s hj hs
    have h1 := (List.getElem?_eq_some_iff.1 hs).1
    have h2 := congrArg List.length hd
    simp at h2
    omega
  | cons s r ih =>
    intro i q hd hm h
    have hs : ss[i]? = some s := by
      have := congrArg (fun l => l[0]?) hd
      simpa [List.getElem?_drop] using this
    have hd' : ss.drop (i + 1) = r := by rw [← List.drop_drop, hd]; rfl
    rw [restL, Bool.and_eq_true] at h
    have hc := ih (i + 1) _ hd' (fun t ht => hm t (List.mem_cons_of_mem _ ht)) h.2
    cases hn : s.neg with
    | true =>
      have h0 : leadN q i = 0 := by have := h.1; simp [stepOk, hn] at this; exact_mod_cast this
      rw [h0, List.drop_zero] at hc
      exact cov_back hs hn hc
    | false =>
      have h1 : 1 ≤ leadN q i := by
        have h2 := h.1
        have h3 := hm s List.mem_cons_self hn
        simp [stepOk, hn] at h2
        omega
      rw [leadN_split q i]
      obtain ⟨m, hm⟩ : ∃ m, leadN q i = m + 1 := ⟨leadN q i - 1, by omega⟩
      rw [hm] at hc ⊢
      rw [List.replicate_succ, List.cons_append]
      exact ⟨i, s, rfl, hs, hn, .inr ⟨Nat.le_refl _, fun j t h1 h2 => by omega⟩, cov_rep hs hn hc m⟩
theorem GoodP.cov {ss : List Sp} (h : GoodP ss) {q : List Int} (hq : q ∈ rowsP ss) : Cov ss 0 q := by
  refine cov_of ss ss 0 q rfl (fun s hs hn => (h.pos s hs hn).1) ?_
  rw [restL_is ss 0 q h.rising]
  exact (h.mem q).1 hq
/-- From which step on nothing was told yet, behind k places of a row. -/
def frL (q : List Int) (k : Nat) : Nat := if k = 0 then 0 else (q[k - 1]?.getD 0).toNat + 1
theorem cov_drop {ss : List Sp} {q : List Int} (h : Cov ss 0 q) : ∀ k, k ≤ q.length → Cov ss (frL q k) (q.drop k) := by
  intro k
  induction k with
  | zero => intro _; simpa [frL] using h
  | succ k ih =>
    intro hk
    have h1 := ih (by omega)
    obtain ⟨y, hy⟩ : ∃ y, q[k]? = some y := ⟨_, List.getElem?_eq_getElem (by omega)⟩
    rw [List.drop_eq_getElem_cons (by omega)] at h1
    obtain ⟨i, s, e, -, -, -, h2⟩ := h1
    have : frL q (k + 1) = i + 1 := by
      unfold frL
      rw [if_neg (by omega), Nat.add_sub_cancel, List.getElem?_eq_getElem (by omega), e]
      simp
    rw [this]; exact h2
/-- How often each number was told, once all below f were gone through. -/
def seenL (ss : List Sp) (f : Nat) : List Int := (List.range ss.length).map fun j => if j < f ∧ (stepA ss j).neg = true then 1 else 0
theorem seenL_len (ss : List Sp) (f : Nat) : (seenL ss f).length = ss.length := by simp [seenL]
theorem seenL_at (ss : List Sp) (f : Nat) {j : Nat} (hj : j < ss.length) : (seenL ss f)[j]? = some (if j < f ∧ (stepA ss j).neg = true then 1 else 0) := by
  simp [seenL, hj]
theorem seenL_zero (ss : List Sp) : seenL ss 0 = List.replicate ss.length 0 := by
  refine List.ext_getElem (by simp [seenL]) fun i h1 h2 => by simp [seenL]
theorem seenL_pos {ss : List Sp} {f : Nat} (h : (stepA ss f).neg = false) : seenL ss (f + 1) = seenL ss f := by
  unfold seenL
  refine List.map_congr_left fun j _ => ?_
  by_cases e : j = f
  · subst e; simp [h]
  · have : (j < f + 1) ↔ (j < f) := by omega
    simp only [this]
theorem seenL_neg {ss : List Sp} {f : Nat} (hf : f < ss.length) (h : (stepA ss f).neg = true) : seenL ss (f + 1) = (seenL ss f).set f 1 := by
  refine List.ext_getElem (by simp [seenL]) fun j h1 h2 => ?_
  rw [List.getElem_set]
  have hj : j < ss.length := by simpa [seenL] using h1
  simp only [seenL, List.getElem_map, List.getElem_range]
  by_cases e : f = j
  · subst e; simp [h]
  · have : (j < f + 1) ↔ (j < f) := by omega
    simp only [this, if_neg e]
theorem seenL_next {ss : List Sp} {f : Nat} (hf : f < ss.length) : (seenL ss f)[f]? = some 0 := by
  rw [seenL_at ss f hf]; simp
/-- What the walk over one place of a row leans on: f the first step that was not told, i the place's step. -/
theorem place_at {ss : List Sp} {win : Int} (hm : mayB ss win = true) {q : List Int} (hq : q ∈ rowsP ss) {k : Nat} {y : Int} (hk : q[k]? = some y) :
    ∃ i d : Nat, y = i ∧ i < ss.length ∧ guardsL ss win q k = fromL (frL q k : Nat) d ∧ (∀ x, x < d → (stepA ss (frL q k + x)).neg = true ∧ frL q k + x < i) ∧ seenL ss (frL q k + d) = seenL ss (frL q (k + 1)) ∧
      (1 ≤ k → q[k - 1]? = some ((frL q k : Int) - 1)) ∧ (k = 0 → d = 0) := by
  have hG := may_good hm
  have hkl := (List.getElem?_eq_some_iff.1 hk).1
  have hc := cov_drop (hG.cov hq) k (by omega)
  rw [List.drop_eq_getElem_cons hkl] at hc
  obtain ⟨i, s, e, hs, hn, hi, -⟩ := hc
  have ey : y = i := by rw [List.getElem?_eq_getElem hkl] at hk; cases hk; exact e
  have hil := (List.getElem?_eq_some_iff.1 hs).1
  have hA : stepA ss i = s := stepA_of hs
  have hf1 : frL q (k + 1) = i + 1 := by
    unfold frL
    rw [if_neg (by omega), Nat.add_sub_cancel, hk, ey]
    simp
  have hsp : seenL ss (i + 1) = seenL ss i := seenL_pos (by rw [hA]; exact hn)
  have hisP : isP ss win q = true := by
    unfold isP
    rw [hm, (hG.mem q).1 hq]; rfl
  have hprev : 1 ≤ k → ∃ p : Nat, q[k - 1]? = some (p : Int) ∧ frL q k = p + 1 := by
    intro h1
    have hc' := cov_drop (hG.cov hq) (k - 1) (by omega)
    rw [List.drop_eq_getElem_cons (by omega)] at hc'
    obtain ⟨p, t, e', -, -, -, -⟩ := hc'
    refine ⟨p, by rw [List.getElem?_eq_getElem (by omega), e'], ?_⟩
    unfold frL
    rw [if_neg (by omega), List.getElem?_eq_getElem (by omega), e']
    simp
  by_cases h0 : k = 0
  · subst h0
    have hf0 : frL q 0 = 0 := rfl
    rw [hf0] at hi ⊢
    have hi0 : i = 0 := by
      rcases hi with hi | ⟨-, hb⟩
      · omega
      · rcases Nat.eq_zero_or_pos i with h | h
        · exact h
        · obtain ⟨t, ht⟩ : ∃ t, ss[0]? = some t := ⟨_, List.getElem?_eq_getElem (by omega)⟩
          have h1 := hb 0 t (Nat.le_refl _) h ht
          have h2 := hG.first t ht
          rw [h2] at h1; cases h1
    subst hi0
    refine ⟨0, 0, ey, hil, ?_, fun x hx => absurd hx (Nat.not_lt_zero _), ?_, fun h => absurd h (by omega), fun _ => rfl⟩
    · simp [guardsL, fromL]
    · rw [hf1]; exact hsp.symm
  · obtain ⟨p, hp, hfp⟩ := hprev (by omega)
    refine ⟨i, i - frL q k, ey, hil, ?_, fun x hx => ?_, ?_, fun _ => by rw [hp, hfp]; simp, fun h => absurd h h0⟩
    · unfold guardsL
      rw [if_pos ⟨by omega, by omega, hisP⟩]
      have e1 : ((k : Int) - 1).toNat = k - 1 := by omega
      rw [e1, hp, Int.toNat_natCast, hk]
      simp only [Option.getD_some]
      unfold betL
      rw [hfp, ey]
      congr 1
      omega
    · rcases hi with hi | ⟨-, hb⟩
      · omega
      · have hlt : frL q k + x < i := by omega
        obtain ⟨t, ht⟩ : ∃ t, ss[frL q k + x]? = some t := ⟨_, List.getElem?_eq_getElem (by omega)⟩
        exact ⟨by rw [stepA_of ht]; exact hb _ t (by omega) hlt ht, hlt⟩
    · rw [hf1, hsp]
      rcases hi with hi | ⟨hle, -⟩
      · rw [show i - frL q k = 0 by omega, ← hi, Nat.add_zero]; exact hsp
      · rw [show frL q k + (i - frL q k) = i by omega]
/-- What stands behind the last place. -/
theorem after_at {ss : List Sp} {win : Int} (hm : mayB ss win = true) {q : List Int} (hq : q ∈ rowsP ss) :
    ∃ d : Nat, afterL ss win = fromL (frL q q.length : Nat) d ∧ frL q q.length + d = ss.length ∧ (∀ x, x < d → (stepA ss (frL q q.length + x)).neg = true) ∧ 1 ≤ q.length ∧ q[q.length - 1]? = some ((frL q q.length : Int) - 1) := by
  have hG := may_good hm
  have hl := (hG.row_len hq).1
  have hc0 := cov_drop (hG.cov hq) (q.length - 1) (by omega)
  rw [List.drop_eq_getElem_cons (by omega)] at hc0
  obtain ⟨p, t, e', ht, hn, -, -⟩ := hc0
  have hp : q[q.length - 1]? = some (p : Int) := by rw [List.getElem?_eq_getElem (by omega), e']
  have hfp : frL q q.length = p + 1 := by
    unfold frL
    rw [if_neg (by omega), hp]
    simp
  have hpl := (List.getElem?_eq_some_iff.1 ht).1
  have hc := cov_drop (hG.cov hq) q.length (Nat.le_refl _)
  rw [List.drop_length] at hc
  have hneg : ∀ j, p + 1 ≤ j → j < ss.length → (stepA ss j).neg = true := fun j h1 h2 => by
    obtain ⟨s, hs⟩ : ∃ s, ss[j]? = some s := ⟨_, List.getElem?_eq_getElem h2⟩
    rw [stepA_of hs]
    exact hc j s (by rw [hfp]; exact h1) hs
  have hlast : lastU ss ss.length = p := by
    rw [lastU_down (k := p + 1) (by omega) hneg]
    exact lastU_at (by rw [stepA_of ht]; exact hn)
  refine ⟨ss.length - (p + 1), ?_, by rw [hfp]; omega, fun x hx => hneg _ (by omega) (by omega), hl, by rw [hp, hfp]; simp⟩
  unfold afterL
  rw [if_pos hm]
  unfold tailP
  rw [hlast]
  unfold betL
  rw [hfp]
  congr 1 <;> omega
/-- At the end. -/
theorem seenL_end (ss : List Sp) {j : Nat} (hj : j < ss.length) : (seenL ss ss.length)[j]? = some (if (stepA ss j).neg = true then 1 else 0) := by
  rw [seenL_at ss _ hj]; simp [hj]
end Go.Proofs.YtccmnngeibpcmaaGreat.Tree
/- Append to an empty slice of the law's own, and of one number more: what is kept. Drawn regions with loads taken first, state by state. -/
namespace Go.Proofs.YtccmnngeibpcmaaGreat.Tree
open Go.ChangeShapes Go.WideShapes Go.ChangeAt Go.RowKit
set_option linter.unusedVariables false
set_option linter.unusedSimpArgs false
set_option maxRecDepth 100000
attribute [local go_sem] Oper.semAt_some
section
variable {P : Program} {w : World} {e : TypeId} {size : Nat}
theorem run_append_fresh (base : Nat) (t ty e : TypeId) (i : TypeInfo) (z : Value) (size bytes : Nat) (ht : P.underlying t = some (.slice e)) (hi : P.info? e = some i) (hz : i.zero = some z)
    (hsize : i.size = size) (hby : i.bytes = bytes) (hzs : z.cells.size = size) (hsz : 0 < size)
    (p : Nat) (hp : w.heap[p]? = some (.cells #[] e (0, 0)))
    (a : Option Addr) (m c : Nat) (news : List Value) (hl : news.length = m * size) (hnews : CellsAt w a news) (h1 : ∀ u ∈ news, u.oneCell' = true)
    (h63 : m ≤ maxLen) (hbytes : m * bytes ≤ 140737488355328) (hbase : base ≤ w.heap.size) :
    ∃ v' w', (Builtin.append_ #[t, t] ty #[.slice (some ⟨p, 0, none⟩) 0 0, .slice a m c]).run P w = .ok v' w' ∧ Below w.heap.size w w' ∧ ((m = 0 ∧ v' = .slice (some ⟨p, 0, none⟩) 0 0 ∧ w'.heap[p]? = some (.cells #[] e (0, 0))) ∨ w'.ownsRow base e size v' m news) := by
  have hown : w.ownsRow 0 e size (.slice (some ⟨p, 0, none⟩) 0 0) 0 [] := ⟨by simp, .inr ⟨p, 0, #[], rfl, Nat.zero_le _, hp, Nat.le_refl _, Nat.zero_le _, by simp, by simp⟩⟩
  cases a with
  | none =>
    have hm : m = 0 := by
      rcases hnews with rfl | ⟨b, o, h, _⟩
      · have hl0 : m * size = 0 := hl.symm
        rcases Nat.mul_eq_zero.1 hl0 with h | h
        · exact h
        · omega
      · cases h
    subst hm
    exact ⟨_, w, run_append_noslice 0 t ty e i size ht hi _ 0 [] hown c, Below.refl _ _, .inl ⟨rfl, rfl, hp⟩⟩
  | some ad =>
    have hc : ∀ j u, news[j]? = some u → w.cell? (ad.add j) = some u := by
      rcases hnews with rfl | ⟨b, o, h, hc⟩
      · intro j u hj; simp at hj
      · cases h
        intro j u hj
        have := hc j u hj
        by_cases h0 : j = 0
        · subst h0; simpa [Addr.add] using this
        · simpa [Addr.add, h0] using this
    subst hsize
    subst hby
    by_cases hm : m = 0
    · subst hm
      have hn : news = [] := List.eq_nil_of_length_eq_zero (by simpa using hl)
      subst hn
      have hr := run_append_room (P := P) w t ty e i ht hi p 0 0 #[] hp ad 0 c [] (by simp) (by simp) (by simp) (Nat.le_refl _) (by simp)
      have e0 : (List.take (0 * i.size) (#[] : Array Value).toList ++ ([] : List Value) ++ List.drop (0 * i.size + ([] : List Value).length) (#[] : Array Value).toList).toArray = #[] := by simp
      rw [e0] at hr
      refine ⟨_, _, hr, ?_, .inl ⟨rfl, rfl, ?_⟩⟩
      · refine ⟨rfl, rfl, rfl, by simp, fun k hk => ?_⟩
        by_cases e : k = p
        · subst e
          rw [hp]
          exact setRow_heap w k #[] _ _ _ hp
        · exact setRow_other w p k _ e
      · exact setRow_heap w p #[] _ _ _ hp
    · have hsmall : m ≤ 9223372036854775807 := by simp only [maxLen] at h63; omega
      have hr := run_append_grow (P := P) w t ty e i z ht hi hz ⟨p, 0, none⟩ 0 0 [] (by simp) (by simp) ad m c news hl hc (by omega) (by omega) (growslice_fits (by omega) (by simpa using hbytes))
      refine ⟨_, _, hr, ⟨rfl, rfl, rfl, by simp, fun k hk => heap_alloc_old w.drew _ hk⟩, .inr ?_⟩
      have hge := grownCap_ge w (0 + m) 0 e
      have hcm : grownCap w (0 + m) 0 e ≤ maxLen := grownCap_le_maxLen w (0 + m) 0 e (by simpa using h63)
      refine ⟨hl, .inr ⟨w.heap.size, _, _, by simp, hbase, heap_alloc_new w.drew _, by simpa using hge, hcm, ?_, ?_⟩⟩
      · simp only [Array.size_append, List.size_toArray, size_zeroCells, hzs, hl, List.length_nil, Nat.zero_add, ← Nat.add_mul]
        congr 1
        simp only [Nat.zero_add] at hge
        omega
      · simp only [Array.toList_append, List.nil_append]
        rw [← hl]
        exact List.take_left
end
/-- A row that stood when memory ended at B. -/
def OldR (N B : Nat) (X : World) (v : Value) (xs : List Int) : Prop := X.ownsRow 0 3 1 v xs.length (ints xs) ∧ (∀ g, v.ownBlock = some g → g < B) ∧ B ≤ X.heap.size ∧ N ≤ B
theorem OldR.later {N B : Nat} {X Y : World} {v : Value} {xs : List Int} (h : OldR N B X v xs) (hb : Below X.heap.size X Y) : OldR N B Y v xs := ⟨row_later h.1 hb, h.2.1, Nat.le_trans h.2.2.1 hb.size, h.2.2.2⟩
theorem OldR.nms {N B : Nat} {X : World} {v : Value} {xs : List Int} (h : OldR N B X v xs) : NmsAt X v xs := nms_own h.1
theorem OldR.of {N : Nat} {X Y : World} {v : Value} {xs : List Int} (h : Y.ownsRow X.heap.size 3 1 v xs.length (ints xs)) (hN : N ≤ Y.heap.size) : OldR N Y.heap.size Y v xs := ⟨row_base h (Nat.zero_le _), fun g hg => (h.lt g hg).2, Nat.le_refl _, hN⟩
/-- A row that lies behind B, or an empty one without room. -/
def NewR (B : Nat) (X : World) (v : Value) (xs : List Int) : Prop := (∃ p, v = .slice (some ⟨p, 0, none⟩) 0 0 ∧ xs = [] ∧ X.heap[p]? = some (.cells #[] 3 (0, 0))) ∨ X.ownsRow B 3 1 v xs.length (ints xs)
theorem NewR.later {B : Nat} {X Y : World} {v : Value} {xs : List Int} (h : NewR B X v xs) (hb : Below X.heap.size X Y) : NewR B Y v xs := by
  rcases h with ⟨p, h1, h2, h3⟩ | h
  · exact .inl ⟨p, h1, h2, (hb.block _ (Array.getElem?_eq_some_iff.1 h3).1).trans h3⟩
  · exact .inr (row_later h hb)
theorem app_first {o : Oper} {a : Act} {w : World} {K : Act → World → Prop} {Q : Exit → Act → World → Prop} (s x : Operand)
    (ho : o.op = .call { callee := .builtin .append, args := #[s, x], argTypes := #[28, 28] })
    (p : Nat) (hp : w.heap[p]? = some (.cells #[] 3 (0, 0))) (hs : a.eval s = .slice (some ⟨p, 0, none⟩) 0 0)
    (u : Value) (xs : List Int) (hx : a.eval x = u) (hu : NmsAt w u xs) (hl : xs.length ≤ 1000) (B : Nat) (hB : B ≤ w.heap.size)
    (h : ∀ v' w', NewR B w' v' xs → Below w.heap.size w w' → K (a.put o.dst v') w') : Oper.wp Tryz.prog o a w K Q := by
  obtain ⟨i0, hi, hz0, hz1, hz2⟩ := info_parts Tryz.info3
  obtain ⟨ad, c, rfl, hc⟩ := hu
  obtain ⟨v', w', hr, h2, h3⟩ := run_append_fresh (P := Tryz.prog) (w := w) B 28 o.type 3 i0 (.int .i64 0) 1 8 Tryz.underlying28 hi hz0 hz1 hz2 rfl (by decide) p hp ad xs.length c (ints xs) (by simp) hc (ints_one xs) (by unfold maxLen; omega) (by omega) hB
  unfold Oper.wp
  simp [execOp, ho, resolve, invoke, builtin, hs, hx, hr, Result.andThen]
  refine h v' w' ?_ h2
  rcases h3 with ⟨h4, h5, h6⟩ | h4
  · exact .inl ⟨p, h5, List.eq_nil_of_length_eq_zero h4, h6⟩
  · exact .inr h4
theorem app_one {o : Oper} {a : Act} {w : World} {K : Act → World → Prop} {Q : Exit → Act → World → Prop} (s x : Operand)
    (ho : o.op = .call { callee := .builtin .append, args := #[s, x], argTypes := #[28, 28] })
    (B : Nat) (hB : B ≤ w.heap.size) (v : Value) (xs : List Int) (hs : a.eval s = v) (hv : NewR B w v xs) (hl : xs.length ≤ 1000)
    (p : Nat) (z : Int) (hx : a.eval x = .slice (some ⟨p, 0, none⟩) 1 1) (hlit : CellsAt w (some ⟨p, 0, none⟩) [.int .i64 z])
    (h : ∀ v' w', NmsAt w' v' (xs ++ [z]) → (∀ N W0, N ≤ B → Below N W0 w → Below N W0 w') → (∀ N u ys, OldR N B w u ys → OldR N B w' u ys) → K (a.put o.dst v') w') : Oper.wp Tryz.prog o a w K Q := by
  obtain ⟨i0, hi, hz0, hz1, hz2⟩ := info_parts Tryz.info3
  rcases hv with ⟨q, rfl, rfl, hq⟩ | hv
  · obtain ⟨v', w', hr, h2, h3⟩ := run_append_fresh (P := Tryz.prog) (w := w) B 28 o.type 3 i0 (.int .i64 0) 1 8 Tryz.underlying28 hi hz0 hz1 hz2 rfl (by decide) q hq (some ⟨p, 0, none⟩) 1 1 [.int .i64 z] (by simp) hlit (by simp [Value.oneCell']) (by unfold maxLen; omega) (by omega) hB
    unfold Oper.wp
    simp [execOp, ho, resolve, invoke, builtin, hs, hx, hr, Result.andThen]
    have h4 : w'.ownsRow B 3 1 v' 1 [.int .i64 z] := by
      rcases h3 with ⟨h4, -⟩ | h4
      · omega
      · exact h4
    exact h v' w' (nms_own (xs := [z]) h4) (fun N W0 hN hb => hb.trans (h2.mono (Nat.le_trans hN hB))) (fun N u ys hu => hu.later h2)
  · obtain ⟨v', w', hr, h2, h3⟩ := run_append_cells (P := Tryz.prog) (w := w) B 28 o.type 3 i0 (.int .i64 0) 1 8 Tryz.underlying28 hi hz0 hz1 hz2 rfl (by decide) v xs.length (ints xs) hv (some ⟨p, 0, none⟩) 1 1 [.int .i64 z] (by simp) hlit (by simp [Value.oneCell']) (by unfold maxLen; omega) (by omega) hB
    unfold Oper.wp
    simp [execOp, ho, resolve, invoke, builtin, hs, hx, hr, Result.andThen]
    have e : ints xs ++ [.int .i64 z] = ints (xs ++ [z]) := by simp [ints]
    rw [e] at h2
    refine h v' w' (nms_own h2) (fun N W0 hN hb => hb.grown h3 (Nat.le_trans hN hB) (fun k hk => Nat.le_trans hN (own_ge hv k hk))) (fun N u ys hu => ⟨hu.1.kept h3 ?_, hu.2.1, Nat.le_trans hu.2.2.1 h3.size, hu.2.2.2⟩)
    cases hub : u.ownBlock with
    | none => exact .inl rfl
    | some g =>
      refine .inr fun e => ?_
      have h4 := own_ge hv g e.symm
      have h5 := hu.2.1 g hub
      omega
/-- The first k have come up, and these. -/
def fsH (n k : Nat) (ex : List Nat) : Array Bool := ((List.range n).map fun i => decide (i < k) || ex.contains i).toArray
theorem held_op {P : Program} {ops : Array Oper} {Q : Exit → Act → World → Prop} {i : Nat} {o : Oper} {K : Act → World → Prop} {a : Act} {w : World} (h0 : ops[i]? = some o) (hw : Region.wanted o (yielded ops a.tmps) = true)
    (h : ∀ K' : Act → World → Prop, (∀ a w, K a w → K' a w) → Oper.wp P o a w K' Q) : wpOp P ops Q i K a w := by
  unfold wpOp
  rw [h0]
  simp only [hw, if_true]
  exact .inl (h K fun _ _ h => h)
end Go.Proofs.YtccmnngeibpcmaaGreat.Tree
