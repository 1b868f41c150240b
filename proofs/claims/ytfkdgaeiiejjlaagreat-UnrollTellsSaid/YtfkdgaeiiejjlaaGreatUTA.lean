/-
  Pure facts of rows: which are rows, how long they are, how they stand in order.
-/
import Derived.Test.YtfkdgaeiiejjlaaGreatUZI
import Derived.Test.YtfkdgaeiiejjlaaGreatCH
namespace Go.Proofs.YtfkdgaeiiejjlaaGreat.Tree
open Go.ChangeShapes Go.WideShapes Go.ChangeAt Go.RowKit
set_option linter.unusedVariables false
set_option linter.unusedSimpArgs false
set_option maxRecDepth 100000
attribute [local go_sem] Oper.semAt_some
theorem leadN_app (t : List Int) (i : Int) (m : Nat) (ht : ∀ y ∈ t, y ≠ i) : leadN (List.replicate m i ++ t) i = m := by
  induction m with
  | zero =>
    cases t with
    | nil => rfl
    | cons y t => simp [leadN, ht y List.mem_cons_self]
  | succ m ih => rw [List.replicate_succ, List.cons_append]; simp [leadN, ih]
theorem leadN_split (r : List Int) (i : Int) : r = List.replicate (leadN r i) i ++ r.drop (leadN r i) := by
  induction r with
  | nil => rfl
  | cons x r ih =>
    simp only [leadN]
    split
    · rename_i h
      subst h
      rw [List.replicate_succ, List.cons_append, List.drop_succ_cons, ← ih]
    · rfl
/-- The steps' numbers rise, from b on, and each comes so many times as it may. -/
def StUp : List (Nat × Sp) → Nat → Prop
  | [], _ => True
  | x :: P, b => b ≤ x.1 ∧ 1 ≤ x.2.min ∧ x.2.min ≤ x.2.max ∧ x.2.max ≤ 3 ∧ StUp P (x.1 + 1)
theorem StUp.mono {P : List (Nat × Sp)} {b b' : Nat} (h : StUp P b) (hb : b' ≤ b) : StUp P b' := by
  cases P with
  | nil => trivial
  | cons x P => exact ⟨Nat.le_trans hb h.1, h.2⟩
theorem StUp.ge {P : List (Nat × Sp)} {b : Nat} (h : StUp P b) : ∀ x ∈ P, b ≤ x.1 := by
  induction P generalizing b with
  | nil => intro x hx; cases hx
  | cons y P ih =>
    intro x hx
    rcases List.mem_cons.1 hx with rfl | hx
    · exact h.1
    · have h1 := ih h.2.2.2.2 x hx; have h2 := h.1; omega
theorem rising_of (ss : List Sp) (b : Nat) (h : ∀ s ∈ ss, s.neg = false → 1 ≤ s.min ∧ s.min ≤ s.max ∧ s.max ≤ 3) : StUp (posS ss b) b := by
  induction ss generalizing b with
  | nil => trivial
  | cons s r ih =>
    have ih' := ih (b + 1) fun t ht => h t (List.mem_cons_of_mem _ ht)
    unfold posS
    split
    · exact ih'.mono (by omega)
    · rename_i hn
      obtain ⟨h1, h2, h3⟩ := h s List.mem_cons_self (by simpa using hn)
      exact ⟨Nat.le_refl _, h1, h2, h3, ih'⟩
theorem isL_ge {P : List (Nat × Sp)} {b : Nat} {t : List Int} (hP : StUp P b) (h : isL P t = true) : ∀ y ∈ t, (b : Int) ≤ y := by
  intro y hy
  obtain ⟨x, hx, rfl⟩ := isL_mem h y hy
  have := hP.ge x hx
  omega
theorem isL_step {x : Nat × Sp} {P : List (Nat × Sp)} (hP : StUp (x :: P) 0) (q : List Int) : isL (x :: P) q = true ↔ ∃ k, k < (x.2.max + 1 - x.2.min).toNat ∧ ∃ t, isL P t = true ∧ q = List.replicate (x.2.min.toNat + k) (x.1 : Int) ++ t := by
  obtain ⟨h0, h1, h2, h3, h4⟩ := hP
  rw [isL]
  constructor
  · intro h
    split at h
    · cases h
    · rename_i hn
      refine ⟨leadN q x.1 - x.2.min.toNat, by omega, q.drop (leadN q x.1), h, ?_⟩
      rw [show x.2.min.toNat + (leadN q x.1 - x.2.min.toNat) = leadN q x.1 by omega]
      exact leadN_split q x.1
  · rintro ⟨k, hk, t, ht, rfl⟩
    have hl := leadN_app t x.1 (x.2.min.toNat + k) fun y hy e => by
      have := isL_ge h4 ht y hy
      omega
    rw [hl, if_neg (by omega), List.drop_left' (by simp)]
    exact ht
theorem fold_mem (P : List (Nat × Sp)) (b : Nat) (hP : StUp P b) (R : List (List Int)) (q : List Int) : q ∈ P.foldl stepR R ↔ ∃ r ∈ R, ∃ t, isL P t = true ∧ q = r ++ t := by
  induction P generalizing R b with
  | nil =>
    simp only [List.foldl_nil, isL, List.isEmpty_iff]
    constructor
    · intro h; exact ⟨q, h, [], rfl, by simp⟩
    · rintro ⟨r, hr, t, rfl, rfl⟩; simpa using hr
  | cons x P ih =>
    rw [List.foldl_cons, ih (x.1 + 1) hP.2.2.2.2]
    constructor
    · rintro ⟨r', hr', t, ht, rfl⟩
      obtain ⟨r, hr, k, hk, rfl⟩ := furL_mem.1 hr'
      exact ⟨r, hr, List.replicate (x.2.min.toNat + k) (x.1 : Int) ++ t, (isL_step (hP.mono (Nat.zero_le _)) _).2 ⟨k, hk, t, ht, rfl⟩, by rw [List.append_assoc]⟩
    · rintro ⟨r, hr, t', ht', rfl⟩
      obtain ⟨k, hk, t, ht, rfl⟩ := (isL_step (hP.mono (Nat.zero_le _)) _).1 ht'
      exact ⟨_, furL_mem.2 ⟨r, hr, k, hk, rfl⟩, t, ht, by rw [List.append_assoc]⟩
theorem GoodP.rising {ss : List Sp} (h : GoodP ss) : StUp (posS ss 0) 0 := rising_of ss 0 h.pos
/-- A row is one of the pattern's just if it has each positive step so many times. -/
theorem GoodP.mem {ss : List Sp} (h : GoodP ss) (q : List Int) : q ∈ rowsP ss ↔ isL (posS ss 0) q = true := by
  unfold rowsP
  rw [fold_mem _ 0 h.rising]
  constructor
  · rintro ⟨r, hr, t, ht, rfl⟩
    obtain rfl : r = [] := by simpa using hr
    exact ht
  · intro hq; exact ⟨[], by simp, q, hq, rfl⟩
theorem isL_len {P : List (Nat × Sp)} {b : Nat} (hP : StUp P b) {q : List Int} (h : isL P q = true) : (q.length : Int) ≤ (P.map (fun x => within x.2.max)).sum ∧ (P ≠ [] → 1 ≤ q.length) := by
  induction P generalizing q b with
  | nil =>
    have : q = [] := by simpa [isL] using h
    subst this; simp
  | cons x P ih =>
    obtain ⟨k, hk, t, ht, rfl⟩ := (isL_step (hP.mono (Nat.zero_le _)) q).1 h
    have h1 := (ih hP.2.2.2.2 ht).1
    obtain ⟨-, h2, h3, h4, -⟩ := hP
    refine ⟨?_, fun _ => ?_⟩
    · rw [List.map_cons, List.sum_cons, List.length_append, List.length_replicate]
      have : within x.2.max = x.2.max := by unfold within; omega
      omega
    · rw [List.length_append, List.length_replicate]; omega
theorem GoodP.nonempty {ss : List Sp} (h : GoodP ss) : posS ss 0 ≠ [] := by
  cases ss with
  | nil => have := h.len1; simp at this
  | cons s r =>
    have := h.first s rfl
    simp [posS, this]
theorem GoodP.row_len {ss : List Sp} (h : GoodP ss) {q : List Int} (hq : q ∈ rowsP ss) : 1 ≤ q.length ∧ q.length ≤ 4 := by
  have h1 := isL_len h.rising ((h.mem q).1 hq)
  rw [posS_sum] at h1
  have := h.most
  exact ⟨h1.2 h.nonempty, by omega⟩
/-- Does a row stand ahead of another one? -/
def aheadL : List Int → List Int → Bool
  | _, [] => false
  | [], _ :: _ => true
  | x :: a, y :: b => if x = y then aheadL a b else decide (y < x)
theorem ahead_more (r : List Int) (i : Int) (j k : Nat) (hjk : j < k) : aheadL (r ++ List.replicate j i) (r ++ List.replicate k i) = true := by
  induction r with
  | nil =>
    induction j generalizing k with
    | zero => obtain ⟨k, rfl⟩ : ∃ k', k = k' + 1 := ⟨k - 1, by omega⟩; rfl
    | succ j ih => obtain ⟨k, rfl⟩ : ∃ k', k = k' + 1 := ⟨k - 1, by omega⟩; simp only [List.nil_append, List.replicate_succ, aheadL, if_true]; simpa using ih k (by omega)
  | cons x r ih => simp only [List.cons_append, aheadL, if_true]; exact ih
theorem ahead_far (i : Int) (j k : Nat) (hj : 1 ≤ j) : ∀ (a b : List Int), (∀ y ∈ b, y < i) → aheadL a b = true → aheadL (a ++ List.replicate j i) (b ++ List.replicate k i) = true
  | _, [], _, h => by simp [aheadL] at h
  | [], y :: b, hb, _ => by
    obtain ⟨j, rfl⟩ : ∃ j', j = j' + 1 := ⟨j - 1, by omega⟩
    have := hb y List.mem_cons_self
    simp only [List.nil_append, List.replicate_succ, List.cons_append, aheadL]
    rw [if_neg (by omega)]
    simpa using this
  | x :: a, y :: b, hb, h => by
    simp only [List.cons_append, aheadL] at h ⊢
    split
    · rename_i e
      rw [if_pos e] at h
      exact ahead_far i j k hj a b (fun z hz => hb z (List.mem_cons_of_mem _ hz)) h
    · rename_i e
      rw [if_neg e] at h
      exact h
theorem range_pair (c : Nat) (f : Nat → List Int) (h : ∀ j k, j < k → k < c → aheadL (f j) (f k) = true) : ((List.range c).map f).Pairwise fun a b => aheadL a b = true := by
  rw [List.pairwise_iff_getElem]
  intro i j hi hj hij
  simp at hi hj
  simpa using h i j hij hj
theorem furL_pair (R : List (List Int)) (i : Int) (mn c : Nat) (hmn : 1 ≤ mn) (hR : R.Pairwise fun a b => aheadL a b = true) (hlt : ∀ r ∈ R, ∀ y ∈ r, y < i) : (furL R i mn c).Pairwise fun a b => aheadL a b = true := by
  unfold furL
  induction R with
  | nil => simp
  | cons r R ih =>
    rw [List.flatMap_cons, List.pairwise_append]
    rw [List.pairwise_cons] at hR
    refine ⟨range_pair c _ fun j k hjk _ => ahead_more r i _ _ (by omega), ih hR.2 fun q hq => hlt q (List.mem_cons_of_mem _ hq), ?_⟩
    intro a ha b hb
    obtain ⟨j, hj, rfl⟩ := List.mem_map.1 ha
    obtain ⟨q, hq, hb⟩ := List.mem_flatMap.1 hb
    obtain ⟨k, hk, rfl⟩ := List.mem_map.1 hb
    exact ahead_far i _ _ (by omega) r q (hlt q (List.mem_cons_of_mem _ hq)) (hR.1 q hq)
theorem fold_pair (P : List (Nat × Sp)) (b : Nat) (hP : StUp P b) (R : List (List Int)) (hR : R.Pairwise fun a b => aheadL a b = true) (hlt : ∀ r ∈ R, ∀ y ∈ r, y < (b : Int)) : (P.foldl stepR R).Pairwise fun a b => aheadL a b = true := by
  induction P generalizing R b with
  | nil => exact hR
  | cons x P ih =>
    obtain ⟨h0, h1, h2, h3, h4⟩ := hP
    refine ih (x.1 + 1) h4 (stepR R x) (furL_pair R x.1 _ _ (by omega) hR fun r hr y hy => by have := hlt r hr y hy; omega) fun q hq y hy => ?_
    obtain ⟨r, hr, k, hk, rfl⟩ := furL_mem.1 hq
    rcases List.mem_append.1 hy with hy | hy
    · have := hlt r hr y hy; omega
    · obtain ⟨-, rfl⟩ := List.mem_replicate.1 hy; omega
/-- A row stands ahead of the next one. -/
theorem GoodP.ahead {ss : List Sp} (h : GoodP ss) {i : Nat} {a b : List Int} (ha : (rowsP ss)[i]? = some a) (hb : (rowsP ss)[i + 1]? = some b) : aheadL a b = true := by
  have hp : (rowsP ss).Pairwise fun a b => aheadL a b = true := fold_pair _ 0 h.rising [[]] (by simp) (by simp)
  rw [List.pairwise_iff_getElem] at hp
  obtain ⟨h1, rfl⟩ := List.getElem?_eq_some_iff.1 ha
  obtain ⟨h2, rfl⟩ := List.getElem?_eq_some_iff.1 hb
  exact hp i (i + 1) h1 h2 (by omega)
theorem aheadL_step {xs ys : List Int} {k : Nat} {x y : Int} (hx : xs[k]? = some x) (hy : ys[k]? = some y) : aheadL (xs.drop k) (ys.drop k) = if x = y then aheadL (xs.drop (k + 1)) (ys.drop (k + 1)) else decide (y < x) := by
  obtain ⟨h1, e1⟩ := List.getElem?_eq_some_iff.1 hx
  obtain ⟨h2, e2⟩ := List.getElem?_eq_some_iff.1 hy
  rw [List.drop_eq_getElem_cons h1, List.drop_eq_getElem_cons h2, e1, e2, aheadL]
theorem aheadL_end (q : List Int) {ys : List Int} {k : Nat} (h : ys.length ≤ k) : aheadL q (ys.drop k) = false := by
  rw [List.drop_eq_nil_of_le h]; cases q <;> rfl
theorem aheadL_first {xs ys : List Int} {k : Nat} (h : xs.length ≤ k) (h2 : k < ys.length) : aheadL (xs.drop k) (ys.drop k) = true := by
  rw [List.drop_eq_nil_of_le h, List.drop_eq_getElem_cons h2]; rfl
/-- Is what is left of a row what is left of the steps? (As the law counts it: step by step, negative ones too.) -/
def stepOk (s : Sp) (n : Nat) : Bool := (s.neg && (n : Int) == 0) || (!s.neg && decide (s.min ≤ n) && decide ((n : Int) ≤ s.max))
def restL : List Sp → Nat → List Int → Bool
  | [], _, q => q.isEmpty
  | s :: r, i, q => stepOk s (leadN q i) && restL r (i + 1) (q.drop (leadN q i))
theorem leadN_pos {q : List Int} {i : Int} (h : leadN q i ≠ 0) : i ∈ q := by
  have := leadN_at q i 0 (by omega)
  exact List.mem_of_getElem? this
theorem restL_is (ss : List Sp) (i : Nat) (q : List Int) (hP : StUp (posS ss i) i) : restL ss i q = isL (posS ss i) q := by
  induction ss generalizing i q with
  | nil => rfl
  | cons s r ih =>
    rw [restL]
    cases hn : s.neg with
    | true =>
      have e : posS (s :: r) i = posS r (i + 1) := by simp [posS, hn]
      rw [e] at hP ⊢
      have hP1 : StUp (posS r (i + 1)) (i + 1) := by
        cases hp : posS r (i + 1) with
        | nil => trivial
        | cons x P =>
          rw [hp] at hP
          refine ⟨(posS_mem (b := i + 1) (ss := r) (by rw [hp]; exact List.mem_cons_self)).1, hP.2⟩
      by_cases h0 : leadN q i = 0
      · rw [h0, List.drop_zero, ih (i + 1) q hP1]
        simp [stepOk, hn]
      · have hf : isL (posS r (i + 1)) q = false := by
          cases hh : isL (posS r (i + 1)) q with
          | false => rfl
          | true =>
            have := isL_ge hP1 hh _ (leadN_pos h0)
            omega
        rw [hf]
        have : stepOk s (leadN q i) = false := by simp [stepOk, hn]; omega
        rw [this]; rfl
    | false =>
      have e : posS (s :: r) i = (i, s) :: posS r (i + 1) := by simp [posS, hn]
      rw [e] at hP ⊢
      rw [isL, ih (i + 1) _ hP.2.2.2.2]
      by_cases h0 : ((leadN q i : Nat) : Int) < s.min ∨ s.max < ((leadN q i : Nat) : Int)
      · rw [if_pos h0]
        have : stepOk s (leadN q i) = false := by
          simp [stepOk, hn]; omega
        rw [this]; rfl
      · rw [if_neg h0]
        have : stepOk s (leadN q i) = true := by
          simp [stepOk, hn]; omega
        rw [this]; rfl
theorem restL_isP (ss : List Sp) (win : Int) (q : List Int) : (mayB ss win && restL ss 0 q) = isP ss win q := by
  unfold isP
  cases hm : mayB ss win with
  | false => rfl
  | true => rw [restL_is ss 0 q (may_good hm).rising]
theorem restL_step {ss : List Sp} {i : Nat} {s : Sp} (h : ss[i]? = some s) (q : List Int) : restL (ss.drop i) i q = (stepOk s (leadN q i) && restL (ss.drop (i + 1)) (i + 1) (q.drop (leadN q i))) := by
  obtain ⟨hk, e⟩ := List.getElem?_eq_some_iff.1 h
  rw [List.drop_eq_getElem_cons hk, e, restL]
/-- Numbers that came in. -/
def NmsIn (W : World) (v : Value) (xs : List Int) : Prop := NmsC W v xs ∧ xs.length ≤ maxLen
theorem flat_ints (l : List Int) : l.flatMap (fun x : Int => [Value.int .i64 x]) = ints l := by
  induction l with
  | nil => rfl
  | cons x l ih => rw [List.flatMap_cons, ih]; rfl
theorem open_nums {H : Type} {enc : TypeId × Value → H} {w : World} {base : Nat} {spare : Nat → Bool} {held : Bool} {r : Reach} {b0 : Nat} {v : Value} {d : DataW H} {p : List MemPlace} (hv : Value.okWide Tryz.prog w r b0 25 v) (h : DataW.Trod enc Tryz.prog w base spare held 25 v d p) :
    ∃ xs : List Int, NmsIn w v xs := by
  obtain ⟨a0, n0, c0, rfl⟩ := okWide_slice Tryz.underlying25 hv
  obtain ⟨m, hm⟩ := h
  obtain ⟨a, c, l, e, hl, hc, -⟩ := open_row 1 cells3 (by omega) (fun x : Int => [Value.int .i64 x]) (fun _ => rfl) (fun _ : Int => True) Tryz.underlying25
    (fun n cs' y h => by obtain ⟨k, e, -, -⟩ := DataW.trod_int Tryz.underlying3 h; exact ⟨k, e, trivial⟩) hm
  replace e : [Value.slice a0 n0 c0] = [.slice a l.length c] := e
  simp at e
  obtain ⟨rfl, rfl, rfl⟩ := e
  refine ⟨l, ⟨a0, c0, rfl, ?_, ?_⟩, hl⟩
  · rcases Go.Deep.open_slice Tryz.underlying25 hm with ⟨e, -⟩ | ⟨a, len, cap, m, n, D, Pl, e, hb, hl, hm, -, -, -⟩
    · replace e : [Value.slice a0 l.length c0] = [.slice none 0 0] := e
      simp at e; simp [e]
    · replace e : [Value.slice a0 l.length c0] = [.slice (some a) len cap] := e
      simp at e; omega
  · rw [← flat_ints]; exact hc
end Go.Proofs.YtfkdgaeiiejjlaaGreat.Tree
