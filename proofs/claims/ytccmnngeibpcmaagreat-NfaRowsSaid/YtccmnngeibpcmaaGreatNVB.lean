/-
  Several texts in one: NP NQ NR NS NT NU NV NW NX NY.
-/
import Derived.Test.YtccmnngeibpcmaaGreatNVA
import Derived.Test.YtccmnngeibpcmaaGreatUZB
import Derived.Deep.AppendLies
import Derived.Deep.RegionLaw
import Derived.Deep.CutBlock
import Derived.Laws.ResultCell
import Derived.Deep.RegionHeld3
/- The automaton of a pattern's rows as a Lean function (alongL, trieR), and what is known of it: it may be, no two states have one way, its rows are the pattern's. -/
namespace Go.Proofs.YtccmnngeibpcmaaGreat.Tree
open Go.ChangeShapes Go.WideShapes Go.ChangeAt Go.RowKit
set_option linter.unusedVariables false
set_option linter.unusedSimpArgs false
set_option maxRecDepth 100000
/-- A state that was not there: step x at place k of a row q, behind a. -/
def newSt (ps : List Sp) (win : Int) (q : List Int) (k : Nat) (a x : Int) : St := ⟨x, k, (stepA ps x.toNat).strict, guardsL ps win q k, a, false⟩
/-- The states, and the one where k places of a row lead. -/
def trieK (ps : List Sp) (win : Int) (q : List Int) (ss : List St) : Nat → List St × Int
  | 0 => (ss, -1)
  | k + 1 =>
    let t := trieK ps win q ss k
    let x := (q[k]?).getD 0
    let j := firstF (askQ t.2 x) t.1
    if j < 0 then (t.1 ++ [newSt ps win q k t.2 x], (t.1.length : Int)) else (t.1, j)
def markL (ss : List St) (i : Nat) : List St := ss.set i { stA ss i with last := true }
def alongL (ps : List Sp) (win : Int) (q : List Int) (ss : List St) : List St := markL (trieK ps win q ss q.length).1 (trieK ps win q ss q.length).2.toNat
def trieR (ps : List Sp) (win : Int) (R : List (List Int)) : List St := R.foldl (fun ss q => alongL ps win q ss) []
theorem trieR_snoc (ps : List Sp) (win : Int) (R : List (List Int)) (q : List Int) : trieR ps win (R ++ [q]) = alongL ps win q (trieR ps win R) := by simp [trieR]
theorem firstF_cases (q : St → Bool) (ss : List St) : (firstF q ss = -1 ∧ ∀ i, i < ss.length → q (stA ss i) = false) ∨ ∃ j : Nat, j < ss.length ∧ firstF q ss = j ∧ q (stA ss j) = true := by
  unfold firstF
  cases h : thoseL q ss with
  | nil =>
    refine .inl ⟨rfl, fun i hi => ?_⟩
    unfold thoseL idxF at h
    rw [List.filter_eq_nil_iff] at h
    simpa using h i (by simpa using hi)
  | cons j r =>
    have hj : j ∈ thoseL q ss := by rw [h]; exact List.mem_cons_self
    unfold thoseL idxF at hj
    simp at hj
    exact .inr ⟨j, hj.1, rfl, hj.2⟩
theorem trieK_bd (ps : List Sp) (win : Int) (q : List Int) (ss : List St) (k : Nat) : (k = 0 ∧ (trieK ps win q ss k).2 = -1 ∨ 1 ≤ k ∧ 0 ≤ (trieK ps win q ss k).2 ∧ (trieK ps win q ss k).2 < (trieK ps win q ss k).1.length) ∧ (trieK ps win q ss k).1.length ≤ ss.length + k := by
  induction k with
  | zero => exact ⟨.inl ⟨rfl, rfl⟩, Nat.le_refl _⟩
  | succ k ih =>
    unfold trieK
    dsimp only
    split
    · simp only [List.length_append, List.length_singleton]
      have := ih.2
      exact ⟨.inr ⟨by omega, by omega, by omega⟩, by omega⟩
    · rename_i h
      rcases firstF_cases (askQ (trieK ps win q ss k).2 ((q[k]?).getD 0)) (trieK ps win q ss k).1 with ⟨e, -⟩ | ⟨j, hj, e, -⟩
      · rw [e] at h; omega
      · rw [e]
        have := ih.2
        dsimp only
        exact ⟨.inr ⟨by omega, by omega, by omega⟩, by omega⟩
theorem markL_len (ss : List St) (i : Nat) : (markL ss i).length = ss.length := by simp [markL]
theorem alongL_len (ps : List Sp) (win : Int) (q : List Int) (ss : List St) : (alongL ps win q ss).length ≤ ss.length + q.length := by
  unfold alongL
  rw [markL_len]
  exact (trieK_bd ps win q ss q.length).2
theorem stA_app_lt {ss : List St} {s : St} {i : Nat} (h : i < ss.length) : stA (ss ++ [s]) i = stA ss i := by unfold stA; rw [List.getElem?_append_left h]
theorem stA_app_eq (ss : List St) (s : St) : stA (ss ++ [s]) ss.length = s := by unfold stA; simp
theorem rightA_of {ss : List St} (h : ∀ i, i < ss.length → 0 ≤ (stA ss i).step ∧ (stA ss i).step < 6 ∧ -1 ≤ (stA ss i).ahead ∧ (stA ss i).ahead < i ∧ (stA ss i).place = behindP ss (stA ss i).ahead) : rightA ss = true := by
  unfold rightA
  rw [List.all_eq_true]
  intro i hi
  obtain ⟨h1, h2, h3, h4, h5⟩ := h i (by simpa using hi)
  simp [stOk]
  exact ⟨⟨h1, h2, h3, h4⟩, h5⟩
theorem wayF_congr {ss ss' : List St} (h : ∀ j, (stA ss j).step = (stA ss' j).step ∧ (stA ss j).ahead = (stA ss' j).ahead) : ∀ f j, wayF ss f j = wayF ss' f j := by
  intro f
  induction f with
  | zero => intro j; rfl
  | succ f ih => intro j; rw [wayF, wayF, (h j).1, (h j).2, ih]
theorem wayF_app {ss : List St} {s : St} (hR : rightA ss = true) : ∀ f j, j < ss.length → wayF (ss ++ [s]) f j = wayF ss f j := by
  intro f
  induction f with
  | zero => intro j _; rfl
  | succ f ih =>
    intro j hj
    rw [wayF, wayF, stA_app_lt hj]
    obtain ⟨-, -, h3, h4, -⟩ := rightA_at hR hj
    split
    · rfl
    · rw [ih _ (by omega)]
theorem wayL_app {ss : List St} {s : St} (hR : rightA ss = true) {j : Nat} (hj : j < ss.length) : wayL (ss ++ [s]) j = wayL ss j := wayF_app hR _ _ hj
theorem behindP_app {ss : List St} {s : St} {a : Int} (h : a < ss.length) (h0 : -1 ≤ a) : behindP (ss ++ [s]) a = behindP ss a := by
  unfold behindP
  split
  · rfl
  · rw [stA_app_lt (by omega)]
theorem rightA_app {ss : List St} {s : St} (hR : rightA ss = true) (h1 : 0 ≤ s.step) (h2 : s.step < 6) (h3 : -1 ≤ s.ahead) (h4 : s.ahead < ss.length) (h5 : s.place = behindP ss s.ahead) : rightA (ss ++ [s]) = true := by
  refine rightA_of fun i hi => ?_
  simp only [List.length_append, List.length_singleton] at hi
  by_cases e : i = ss.length
  · subst e
    rw [stA_app_eq, behindP_app h4 h3]
    exact ⟨h1, h2, h3, h4, h5⟩
  · have hi2 : i < ss.length := by omega
    obtain ⟨k1, k2, k3, k4, k5⟩ := rightA_at hR hi2
    rw [stA_app_lt hi2, behindP_app (by omega) k3]
    exact ⟨k1, k2, k3, k4, k5⟩
/-- What is known of the states of the rows D. -/
structure Tri (ps : List Sp) (win : Int) (D : List (List Int)) (ss : List St) : Prop where
  right : rightA ss = true
  uniq : ∀ i j, i < ss.length → j < ss.length → (stA ss i).ahead = (stA ss j).ahead → (stA ss i).step = (stA ss j).step → i = j
  ok : ∀ i, i < ss.length → ∃ q, q ∈ D ∧ ∃ (k : Nat) (x : Int), q[k]? = some x ∧ wayL ss i = q.take (k + 1) ∧ (stA ss i).step = x ∧ (stA ss i).place = k ∧ (stA ss i).strict = (stepA ps x.toNat).strict ∧ (stA ss i).gs = guardsL ps win q k
theorem Tri.more {ps : List Sp} {win : Int} {D : List (List Int)} {ss : List St} (h : Tri ps win D ss) (q : List Int) : Tri ps win (D ++ [q]) ss :=
  ⟨h.right, h.uniq, fun i hi => by
    obtain ⟨q', h1, h2⟩ := h.ok i hi
    exact ⟨q', List.mem_append_left _ h1, h2⟩⟩
theorem askQ_true {x y : Int} {s : St} (h : askQ x y s = true) : s.ahead = x ∧ s.step = y := by simpa [askQ] using h
theorem askQ_false {x y : Int} {s : St} (h : askQ x y s = false) (h1 : s.ahead = x) (h2 : s.step = y) : False := by simp [askQ, h1, h2] at h
theorem take_at {q : List Int} {k : Nat} {x : Int} (h : q[k]? = some x) : q.take (k + 1) = q.take k ++ [x] := by rw [List.take_add_one, h]; rfl
/-- How k places of a row were gone. -/
structure TriK (ps : List Sp) (win : Int) (D : List (List Int)) (q : List Int) (ss : List St) (k : Nat) (t : List St × Int) : Prop where
  tri : Tri ps win (D ++ [q]) t.1
  pre : ∃ new : List St, t.1 = ss ++ new ∧ (∀ s ∈ new, s.last = false) ∧ (new = [] ∨ t.2 = (t.1.length : Int) - 1)
  here : (k = 0 ∧ t.2 = -1) ∨ (1 ≤ k ∧ 0 ≤ t.2 ∧ t.2 < t.1.length ∧ wayL t.1 t.2.toNat = q.take k)
theorem triK_all {ps : List Sp} {win : Int} {D : List (List Int)} {ss : List St} {q : List Int} (h : Tri ps win D ss) (hq : ∀ y ∈ q, 0 ≤ y ∧ y < 6) : ∀ k, k ≤ q.length → TriK ps win D q ss k (trieK ps win q ss k) := by
  intro k
  induction k with
  | zero => exact fun _ => ⟨h.more q, ⟨[], by simp [trieK], by simp, .inl rfl⟩, .inl ⟨rfl, rfl⟩⟩
  | succ k ih =>
    intro hk
    have H := ih (by omega)
    obtain ⟨x, hx⟩ : ∃ x, q[k]? = some x := ⟨_, List.getElem?_eq_getElem (by omega)⟩
    have hxb := hq x (List.mem_of_getElem? hx)
    unfold trieK
    dsimp only
    rw [hx, Option.getD_some]
    generalize trieK ps win q ss k = t at H
    obtain ⟨s1, a⟩ := t
    obtain ⟨hT, ⟨new, e1, hnl, hnew⟩, hat⟩ := H
    dsimp only at *
    have hway : (if a = -1 then ([] : List Int) else wayL s1 a.toNat) = q.take k := by
      rcases hat with ⟨rfl, rfl⟩ | ⟨h1, h2, h3, h4⟩
      · simp
      · rw [if_neg (by omega), h4]
    have hab : -1 ≤ a ∧ a < s1.length := by rcases hat with ⟨-, rfl⟩ | ⟨-, h2, h3, -⟩ <;> omega
    rcases firstF_cases (askQ a x) s1 with ⟨e, hno⟩ | ⟨j, hj, e, hyes⟩
    · rw [e, if_pos (by omega)]
      have hpl : (k : Int) = behindP s1 a := by
        unfold behindP
        rcases hat with ⟨rfl, rfl⟩ | ⟨h1, h2, h3, h4⟩
        · simp
        · rw [if_neg (by omega)]
          have := (wayL_len hT.right a.toNat (by omega)).1
          rw [h4, List.length_take] at this
          omega
      have hR : rightA (s1 ++ [newSt ps win q k a x]) = true := rightA_app hT.right hxb.1 hxb.2 hab.1 hab.2 hpl
      have hwn : wayL (s1 ++ [newSt ps win q k a x]) s1.length = q.take (k + 1) := by
        rw [wayL_eq hR (by simp), stA_app_eq, take_at hx, ← hway]
        show (if a = -1 then [] else wayL _ a.toNat) ++ [x] = _
        split
        · rfl
        · rw [wayL_app hT.right (by omega)]
      refine ⟨⟨hR, ?_, ?_⟩, ⟨new ++ [newSt ps win q k a x], by rw [e1, List.append_assoc], ?_, .inr (by simp)⟩, .inr ⟨by omega, by omega, by simp; omega, by rw [Int.toNat_natCast]; exact hwn⟩⟩
      · intro i j hi hj
        simp only [List.length_append, List.length_singleton] at hi hj
        by_cases ei : i = s1.length
        · by_cases ej : j = s1.length
          · intros; omega
          · subst ei
            rw [stA_app_eq, stA_app_lt (show j < s1.length by omega)]
            intro ha hs
            exact (askQ_false (hno j (by omega)) ha.symm hs.symm).elim
        · by_cases ej : j = s1.length
          · subst ej
            rw [stA_app_eq, stA_app_lt (show i < s1.length by omega)]
            intro ha hs
            exact (askQ_false (hno i (by omega)) ha hs).elim
          · rw [stA_app_lt (show i < s1.length by omega), stA_app_lt (show j < s1.length by omega)]
            exact hT.uniq i j (by omega) (by omega)
      · intro i hi
        simp only [List.length_append, List.length_singleton] at hi
        by_cases ei : i = s1.length
        · subst ei
          rw [stA_app_eq]
          exact ⟨q, by simp, k, x, hx, hwn, rfl, rfl, rfl, rfl⟩
        · rw [stA_app_lt (show i < s1.length by omega), wayL_app hT.right (by omega)]
          exact hT.ok i (by omega)
      · intro s hs
        rcases List.mem_append.1 hs with hs | hs
        · exact hnl s hs
        · obtain rfl := List.mem_singleton.1 hs
          rfl
    · rw [e, if_neg (by omega)]
      obtain ⟨ha, hs⟩ := askQ_true hyes
      have hr := rightA_at hT.right hj
      refine ⟨hT, ⟨new, e1, hnl, .inl ?_⟩, .inr ⟨by omega, by omega, by dsimp only; omega, ?_⟩⟩
      · rcases hnew with h0 | h0
        · exact h0
        · have := hr.2.2.2.1
          omega
      · rw [Int.toNat_natCast, wayL_eq hT.right hj, ha, hs, hway, take_at hx]
theorem aheadL_take : ∀ (d : List Int) (m : Nat), aheadL d (d.take m) = false
  | [], m => by simp [aheadL]
  | x :: d, 0 => by simp [aheadL]
  | x :: d, m + 1 => by simp only [List.take_succ_cons, aheadL, if_true]; exact aheadL_take d m
theorem stA_set_ne {ss : List St} {i j : Nat} {s : St} (h : j ≠ i) : stA (ss.set i s) j = stA ss j := by
  unfold stA
  rw [List.getElem?_set_ne (by omega)]
theorem stA_set_eq {ss : List St} {i : Nat} {s : St} (h : i < ss.length) : stA (ss.set i s) i = s := by
  unfold stA
  simp [h]
/-- But for whether it is last a state is as it was. -/
theorem stA_mark (ss : List St) (i j : Nat) (h : i < ss.length) : (stA (markL ss i) j).step = (stA ss j).step ∧ (stA (markL ss i) j).place = (stA ss j).place ∧ (stA (markL ss i) j).strict = (stA ss j).strict ∧ (stA (markL ss i) j).gs = (stA ss j).gs ∧ (stA (markL ss i) j).ahead = (stA ss j).ahead := by
  unfold markL
  by_cases e : j = i
  · subst e
    rw [stA_set_eq h]
    exact ⟨rfl, rfl, rfl, rfl, rfl⟩
  · rw [stA_set_ne e]
    exact ⟨rfl, rfl, rfl, rfl, rfl⟩
theorem wayL_mark {ss : List St} {i : Nat} (h : i < ss.length) (j : Nat) : wayL (markL ss i) j = wayL ss j :=
  wayF_congr (fun k => ⟨(stA_mark ss i k h).1, (stA_mark ss i k h).2.2.2.2⟩) _ _
theorem behindP_mark {ss : List St} {i : Nat} (h : i < ss.length) (a : Int) : behindP (markL ss i) a = behindP ss a := by
  unfold behindP
  rw [(stA_mark ss i _ h).2.1]
theorem Tri.mark {ps : List Sp} {win : Int} {D : List (List Int)} {ss : List St} (h : Tri ps win D ss) {i : Nat} (hi : i < ss.length) : Tri ps win D (markL ss i) := by
  refine ⟨rightA_of fun j hj => ?_, fun j k hj hk => ?_, fun j hj => ?_⟩
  · rw [markL_len] at hj
    obtain ⟨e1, e2, e3, e4, e5⟩ := stA_mark ss i j hi
    rw [e1, e2, e5, behindP_mark hi]
    exact rightA_at h.right hj
  · rw [markL_len] at hj hk
    rw [(stA_mark ss i j hi).1, (stA_mark ss i k hi).1, (stA_mark ss i j hi).2.2.2.2, (stA_mark ss i k hi).2.2.2.2]
    exact h.uniq j k hj hk
  · rw [markL_len] at hj
    obtain ⟨e1, e2, e3, e4, e5⟩ := stA_mark ss i j hi
    rw [e1, e2, e3, e4, wayL_mark hi]
    exact h.ok j hj
theorem idxF_congr {p : St → Bool} {ss ss' : List St} {j : Nat} (h : ∀ i, i < j → p (stA ss i) = p (stA ss' i)) : idxF p ss j = idxF p ss' j := by
  unfold idxF
  refine List.filter_congr fun i hi => ?_
  exact h i (by simpa using hi)
theorem idxF_none {p : St → Bool} {ss : List St} (j m : Nat) (h : ∀ i, j ≤ i → i < j + m → p (stA ss i) = false) : idxF p ss (j + m) = idxF p ss j := by
  induction m with
  | zero => rfl
  | succ m ih =>
    rw [← Nat.add_assoc, idxF_succ, h (j + m) (by omega) (by omega), ih fun i h1 h2 => h i h1 (by omega)]
    simp
theorem stA_pre {ss new : List St} {i : Nat} (h : i < ss.length) : stA (ss ++ new) i = stA ss i := by unfold stA; rw [List.getElem?_append_left h]
theorem stA_new {ss new : List St} {i : Nat} (h : ss.length ≤ i) (h2 : i < ss.length + new.length) : stA (ss ++ new) i ∈ new := by
  unfold stA
  rw [List.getElem?_append_right h, List.getElem?_eq_getElem (by omega)]
  exact List.getElem_mem _
/-- One row more. -/
theorem tri_along {ps : List Sp} {win : Int} {D : List (List Int)} {ss : List St} {q : List Int} (h : Tri ps win D ss) (hr : rowsA ss = D) (hq : ∀ y ∈ q, 0 ≤ y ∧ y < 6) (h1 : 1 ≤ q.length) (hd : ∀ d ∈ D, aheadL d q = true) :
    Tri ps win (D ++ [q]) (alongL ps win q ss) ∧ rowsA (alongL ps win q ss) = D ++ [q] := by
  have H := triK_all h hq q.length (Nat.le_refl _)
  unfold alongL
  generalize trieK ps win q ss q.length = t at H
  obtain ⟨s1, a⟩ := t
  obtain ⟨hT, ⟨new, e1, hnl, hnew⟩, hat⟩ := H
  dsimp only at *
  obtain ⟨-, h2, h3, h4⟩ : 1 ≤ q.length ∧ 0 ≤ a ∧ a < s1.length ∧ wayL s1 a.toNat = q.take q.length := by
    rcases hat with ⟨h0, -⟩ | h0
    · omega
    · exact h0
  rw [List.take_length] at h4
  have hai : a.toNat < s1.length := by omega
  have hn0 : new ≠ [] := by
    intro h0
    subst h0
    rw [List.append_nil] at e1
    subst e1
    obtain ⟨d, hdm, k, x, -, hw, -⟩ := h.ok a.toNat hai
    have := hd d hdm
    rw [← h4, hw, aheadL_take] at this
    cases this
  have ha : a = (s1.length : Int) - 1 := hnew.resolve_left hn0
  have hnl0 : 1 ≤ new.length := by
    cases new with
    | nil => exact absurd rfl hn0
    | cons x r => simp
  have hsl : s1.length = ss.length + new.length := by rw [e1, List.length_append]
  have hai2 : a.toNat = ss.length + (new.length - 1) := by omega
  have hTm := hT.mark hai
  refine ⟨hTm, ?_⟩
  have hth : thoseL (fun s => s.last) (markL s1 a.toNat) = thoseL (fun s => s.last) ss ++ [a.toNat] := by
    unfold thoseL
    rw [markL_len, show s1.length = a.toNat + 1 by omega, idxF_succ]
    have hl : (stA (markL s1 a.toNat) a.toNat).last = true := by unfold markL; rw [stA_set_eq hai]
    rw [hl, if_pos rfl]
    congr 1
    rw [idxF_congr (ss' := s1) (fun i hi => by unfold markL; rw [stA_set_ne (by omega)]), hai2, idxF_none]
    · exact idxF_congr fun i hi => by rw [e1, stA_pre hi]
    · intro i hi1 hi2
      exact hnl _ (by rw [e1]; exact stA_new hi1 (by omega))
  unfold rowsA
  rw [hth, List.map_append, List.map_singleton, hTm.right, if_pos rfl, wayL_mark hai, h4]
  congr 1
  rw [← hr]
  unfold rowsA
  refine List.map_congr_left fun j hj => ?_
  have hjl := those_lt hj
  rw [h.right, if_pos rfl, if_pos rfl, wayL_mark hai]
  have hpre : ∀ (nw : List St), rightA (ss ++ nw) = true → wayL (ss ++ nw) j = wayL ss j := by
    intro nw hR
    unfold wayL
    have : ∀ f i, i < ss.length → wayF (ss ++ nw) f i = wayF ss f i := by
      intro f
      induction f with
      | zero => intro i _; rfl
      | succ f ih =>
        intro i hi
        rw [wayF, wayF, stA_pre hi]
        obtain ⟨-, -, h3, h4, -⟩ := rightA_at h.right hi
        split
        · rfl
        · rw [ih _ (by omega)]
    exact this _ _ hjl
  rw [e1]
  exact hpre new (by rw [← e1]; exact hT.right)
theorem tri_nil (ps : List Sp) (win : Int) : Tri ps win [] [] := ⟨rfl, fun i j hi => by simp at hi, fun i hi => by simp at hi⟩
theorem tri_rows (ps : List Sp) (win : Int) (R : List (List Int)) (hq : ∀ q ∈ R, (∀ y ∈ q, 0 ≤ y ∧ y < 6) ∧ 1 ≤ q.length) (hp : R.Pairwise fun a b => aheadL a b = true) : Tri ps win R (trieR ps win R) ∧ rowsA (trieR ps win R) = R := by
  have key : ∀ n, n ≤ R.length → Tri ps win (R.take n) (trieR ps win (R.take n)) ∧ rowsA (trieR ps win (R.take n)) = R.take n := by
    intro n
    induction n with
    | zero => intro _; exact ⟨tri_nil ps win, rfl⟩
    | succ n ih =>
      intro hn
      obtain ⟨i1, i2⟩ := ih (by omega)
      have e : R.take (n + 1) = R.take n ++ [R[n]] := by rw [List.take_add_one, List.getElem?_eq_getElem (by omega)]; rfl
      rw [e, trieR_snoc]
      have hm := hq R[n] (List.getElem_mem _)
      refine tri_along i1 i2 hm.1 hm.2 fun d hd => ?_
      obtain ⟨i, hi, rfl⟩ := List.getElem_of_mem hd
      rw [List.pairwise_iff_getElem] at hp
      simp only [List.length_take] at hi
      rw [List.getElem_take]
      exact hp i n (by omega) (by omega) (by omega)
  have := key R.length (Nat.le_refl _)
  rwa [List.take_length] at this
/-- No two states have one way. -/
theorem Tri.ways {ps : List Sp} {win : Int} {D : List (List Int)} {ss : List St} (h : Tri ps win D ss) : ∀ i, i < ss.length → ∀ j, j < ss.length → wayL ss i = wayL ss j → i = j := by
  intro i
  induction i using Nat.strongRecOn with
  | _ i ih =>
    intro hi j hj he
    have ri := rightA_at h.right hi
    have rj := rightA_at h.right hj
    have li := wayL_len h.right i hi
    have lj := wayL_len h.right j hj
    rw [wayL_eq h.right hi, wayL_eq h.right hj] at he
    have hs := List.append_inj_right' he rfl
    have hw := List.append_inj_left' he rfl
    simp only [List.cons.injEq, and_true] at hs
    refine h.uniq i j hi hj ?_ hs
    by_cases ei : (stA ss i).ahead = -1
    · by_cases ej : (stA ss j).ahead = -1
      · omega
      · rw [if_pos ei, if_neg ej] at hw
        have := (wayL_len h.right (stA ss j).ahead.toNat (by omega))
        rw [← hw] at this
        simp at this
        omega
    · by_cases ej : (stA ss j).ahead = -1
      · rw [if_neg ei, if_pos ej] at hw
        have := (wayL_len h.right (stA ss i).ahead.toNat (by omega))
        rw [hw] at this
        simp at this
        omega
      · rw [if_neg ei, if_neg ej] at hw
        have := ih (stA ss i).ahead.toNat (by omega) (by omega) (stA ss j).ahead.toNat (by omega) hw
        omega
end Go.Proofs.YtccmnngeibpcmaaGreat.Tree
/- What a pattern's automaton tells of its states: their steps, their guards; what stands behind the last place. -/
namespace Go.Proofs.YtccmnngeibpcmaaGreat.Tree
open Go.ChangeShapes Go.WideShapes Go.ChangeAt Go.RowKit
set_option linter.unusedVariables false
set_option linter.unusedSimpArgs false
set_option maxRecDepth 100000
theorem row_isP {ss : List Sp} {win : Int} (hm : mayB ss win = true) {q : List Int} (hq : q ∈ rowsP ss) : isP ss win q = true := by
  unfold isP
  rw [hm, Bool.true_and]
  exact ((may_good hm).mem q).1 hq
theorem rows_fit {ss : List Sp} {win : Int} (hm : mayB ss win = true) : (∀ q ∈ rowsP ss, (∀ y ∈ q, 0 ≤ y ∧ y < 6) ∧ 1 ≤ q.length ∧ q.length ≤ 4) ∧ (rowsP ss).Pairwise (fun a b => aheadL a b = true) :=
  ⟨fun q hq => ⟨isP_bd (row_isP hm hq), (may_good hm).row_len hq⟩, fold_pair _ 0 (may_good hm).rising [[]] (by simp) (by simp)⟩
/-- The states of a pattern's automaton. -/
def autoS (ss : List Sp) (win : Int) : List St := trieR ss win (rowsP ss)
theorem auto_tri {ss : List Sp} {win : Int} (hm : mayB ss win = true) : Tri ss win (rowsP ss) (autoS ss win) ∧ rowsA (autoS ss win) = rowsP ss := by
  obtain ⟨h1, h2⟩ := rows_fit hm
  exact tri_rows ss win _ (fun q hq => ⟨(h1 q hq).1, (h1 q hq).2.1⟩) h2
theorem trieR_len (ps : List Sp) (win : Int) (R : List (List Int)) (h : ∀ q ∈ R, q.length ≤ 4) : (trieR ps win R).length ≤ 4 * R.length := by
  have key : ∀ n, n ≤ R.length → (trieR ps win (R.take n)).length ≤ 4 * n := by
    intro n
    induction n with
    | zero => intro _; simp [trieR]
    | succ n ih =>
      intro hn
      have e : R.take (n + 1) = R.take n ++ [R[n]] := by rw [List.take_add_one, List.getElem?_eq_getElem (by omega)]; rfl
      rw [e, trieR_snoc]
      have := alongL_len ps win R[n] (trieR ps win (R.take n))
      have := h R[n] (List.getElem_mem _)
      have := ih (by omega)
      omega
  have := key R.length (Nat.le_refl _)
  rwa [List.take_length] at this
/-- A row's number is that of a positive step. -/
theorem row_pos {ss : List Sp} (hG : GoodP ss) {q : List Int} (hq : q ∈ rowsP ss) {k : Nat} {y : Int} (hk : q[k]? = some y) : ∃ i : Nat, y = i ∧ i < ss.length ∧ (stepA ss i).neg = false := by
  have hkl := (List.getElem?_eq_some_iff.1 hk).1
  have hc := cov_drop (hG.cov hq) k (by omega)
  rw [List.drop_eq_getElem_cons hkl] at hc
  obtain ⟨i, s, e, hs, hn, -, -⟩ := hc
  refine ⟨i, ?_, (List.getElem?_eq_some_iff.1 hs).1, by rw [stepA_of hs]; exact hn⟩
  rw [List.getElem?_eq_getElem hkl] at hk
  cases hk
  exact e
theorem mem_fromL (a y : Int) (k : Nat) : y ∈ fromL a k ↔ a ≤ y ∧ y < a + k := by
  unfold fromL
  simp only [List.mem_map, List.mem_range]
  constructor
  · rintro ⟨j, hj, rfl⟩; omega
  · rintro ⟨h1, h2⟩; exact ⟨(y - a).toNat, by omega, by omega⟩
/-- What is asked of a state's guards. -/
def wantB (ss : List Sp) (au : List St) (s : St) (k : Nat) : Bool :=
  decide (0 ≤ s.ahead) && ((stepA ss k).neg && (decide ((stA au (max s.ahead 0).toNat).step < (k : Int)) && decide ((k : Int) < s.step)))
theorem auto_state {ss : List Sp} {win : Int} (hm : mayB ss win = true) {i : Nat} (hi : i < (autoS ss win).length) :
    ∃ m : Nat, (stA (autoS ss win) i).step = m ∧ m < ss.length ∧ (stepA ss m).neg = false ∧ (stA (autoS ss win) i).strict = (stepA ss m).strict ∧ (stA (autoS ss win) i).gs.length ≤ 6 ∧
      ∀ k, k < ss.length → decide ((k : Int) ∈ (stA (autoS ss win) i).gs) = wantB ss (autoS ss win) (stA (autoS ss win) i) k := by
  obtain ⟨hT, -⟩ := auto_tri hm
  have hG := may_good hm
  generalize autoS ss win = au at *
  obtain ⟨q, hq, k, x, hx, hw, hs, hp, hst, hg⟩ := hT.ok i hi
  obtain ⟨m, rfl, hml, hmn⟩ := row_pos hG hq hx
  obtain ⟨m', d, e', -, hgl, hneg, -, hprev, hz⟩ := place_at hm hq hx
  obtain rfl : m = m' := by omega
  obtain ⟨-, -, r3, r4, r5⟩ := rightA_at hT.right hi
  have hd6 : d ≤ 6 := by
    have h6 := hG.len6
    rcases Nat.eq_zero_or_pos d with h | h
    · omega
    · have := (hneg (d - 1) (by omega)).2
      omega
  refine ⟨m, hs, hml, hmn, hst, by rw [hg, hgl, fromL_len]; exact hd6, fun j hj => ?_⟩
  rw [hg, hgl]
  unfold wantB
  rw [hs]
  by_cases hk0 : k = 0
  · subst hk0
    have ha : (stA au i).ahead = -1 := by
      unfold behindP at r5
      split at r5
      · assumption
      · have := (wayL_len hT.right (stA au i).ahead.toNat (by omega)).2.1
        omega
    rw [hz rfl, ha]
    simp [fromL]
  · have ha : 0 ≤ (stA au i).ahead := by
      unfold behindP at r5
      split at r5
      · omega
      · omega
    have hway : wayL au (stA au i).ahead.toNat = q.take k := by
      have h1 := wayL_eq hT.right hi
      rw [hw, if_neg (by omega), take_at hx] at h1
      exact (List.append_inj_left' h1 rfl).symm
    have hstep : (stA au (stA au i).ahead.toNat).step = (frL q k : Int) - 1 := by
      have h1 := wayL_eq hT.right (show (stA au i).ahead.toNat < au.length by omega)
      have h2 := hprev (by omega)
      have h3 : q.take k = q.take (k - 1) ++ [(frL q k : Int) - 1] := by
        obtain ⟨k', rfl⟩ : ∃ k', k = k' + 1 := ⟨k - 1, by omega⟩
        exact take_at h2
      rw [hway, h3] at h1
      have := List.append_inj_right' h1 rfl
      simp only [List.cons.injEq, and_true] at this
      exact this.symm
    have hdl : d = ((m : Int) - frL q k).toNat := by
      have h1 := congrArg List.length hgl
      rw [fromL_len] at h1
      rw [← h1]
      unfold guardsL
      rw [if_pos ⟨by omega, by have := (List.getElem?_eq_some_iff.1 hx).1; omega, row_isP hm hq⟩]
      have h2 := hprev (by omega)
      rw [show ((k : Int) - 1).toNat = k - 1 by omega, h2, Int.toNat_natCast, hx]
      unfold betL
      rw [fromL_len]
      simp only [Option.getD_some]
      congr 1
      omega
    rw [show (max (stA au i).ahead 0) = (stA au i).ahead by omega, hstep, decide_eq_true ha, Bool.true_and]
    have hmem := mem_fromL (frL q k : Nat) (j : Int) d
    by_cases h1 : (frL q k : Int) - 1 < j ∧ (j : Int) < m
    · have hin : (j : Int) ∈ fromL (frL q k : Nat) d := hmem.2 ⟨by omega, by omega⟩
      have := (hneg (j - frL q k) (by omega)).1
      rw [show frL q k + (j - frL q k) = j by omega] at this
      rw [decide_eq_true hin, this, decide_eq_true h1.1, decide_eq_true h1.2]
      rfl
    · have hout : ¬ (j : Int) ∈ fromL (frL q k : Nat) d := fun h => by
        have := hmem.1 h
        omega
      rw [decide_eq_false hout]
      rcases Decidable.not_and_iff_or_not.1 h1 with h | h
      · rw [decide_eq_false h]; simp
      · rw [decide_eq_false h]; simp
/-- What stands behind the last place of a pattern's rows. -/
theorem auto_after {ss : List Sp} {win : Int} (hm : mayB ss win = true) : 0 ≤ lastU ss ss.length ∧ (afterL ss win).length ≤ 6 ∧
    ∀ k, k < ss.length → decide ((k : Int) ∈ afterL ss win) = ((stepA ss k).neg && decide (lastU ss ss.length < (k : Int))) := by
  have hG := may_good hm
  have h6 := hG.len6
  have h1 := hG.len1
  have hf : (stepA ss 0).neg = false := hG.first _ (stepA_in (by omega))
  obtain ⟨hl, hneg⟩ := lastU_spec ss ss.length
  have h0 : 0 ≤ lastU ss ss.length := by
    rcases hl with hl | ⟨p, -, hl, -⟩
    · have := hneg 0 (by omega) (by omega)
      rw [hf] at this
      cases this
    · omega
  obtain ⟨p, hp, hlp⟩ : ∃ p : Nat, p < ss.length ∧ lastU ss ss.length = p := by
    rcases hl with hl | ⟨p, h, hl, -⟩
    · omega
    · exact ⟨p, h, hl⟩
  have ha : afterL ss win = fromL ((p : Int) + 1) (ss.length - (p + 1)) := by
    unfold afterL tailP betL
    rw [if_pos hm, hlp]
    congr 1 <;> omega
  refine ⟨h0, by rw [ha, fromL_len]; omega, fun k hk => ?_⟩
  rw [ha, hlp]
  have hmem := mem_fromL ((p : Int) + 1) (k : Int) (ss.length - (p + 1))
  by_cases h : (p : Int) < k
  · rw [decide_eq_true (hmem.2 ⟨by omega, by omega⟩), decide_eq_true h, hneg k (by omega) hk]
    rfl
  · rw [decide_eq_false (fun hh => by have := hmem.1 hh; omega), decide_eq_false h]
    simp
end Go.Proofs.YtccmnngeibpcmaaGreat.Tree
/- slices.Values at rows of rows. -/
namespace Go.Proofs.YtccmnngeibpcmaaGreat.Tree
open Go.ChangeShapes Go.WideShapes Go.ChangeAt Go.RowKit
set_option linter.unusedVariables false
set_option linter.unusedSimpArgs false
set_option maxRecDepth 100000
attribute [local go_sem] Oper.semAt_some
theorem values2_any (a : Option Addr) (n c : Nat) (w : World) :
    Calls Tryz.prog 23 #[.slice a n c] w fun e w' => e = .returned (.func (.func 40) #[] #[ptr w.heap.size]) ∧ w' = w.alloc (.cells #[.slice a n c] 34) := by
  go_enter Tryz.func23, Tryz.ntmps23
  go_wp2
  go_ret
  exact ⟨rfl, rfl⟩
/-- Rows in a box. -/
def VrIn (B : Nat) (a : Option Addr) (n c : Nat) (vs : List Value) (R : List (List Int)) (W : World) : Prop := W.heap[B]? = some (.cells #[.slice a n c] 34 (0, 0)) ∧ R.length = n ∧ RowsV W (.slice a n c) vs R
theorem VrIn.later {B : Nat} {a : Option Addr} {n c : Nat} {vs : List Value} {R : List (List Int)} {W W' : World} (h : VrIn B a n c vs R W) (hb : Below W.heap.size W W') : VrIn B a n c vs R W' :=
  ⟨(hb.block _ (Array.getElem?_eq_some_iff.1 h.1).1).trans h.1, h.2.1, h.2.2.later hb⟩
def vrRow (vs : List Value) : List (Array Value) := vs.map fun x => #[x]
theorem vrRow_len (vs : List Value) : (vrRow vs).length = vs.length := by simp [vrRow]
theorem vrRow_at {vs : List Value} {k : Nat} {x : Value} (h : vs[k]? = some x) : (vrRow vs)[k]?.getD #[] = #[x] := by simp [vrRow, h]
theorem vrRow_size {vs : List Value} {k : Nat} (h : k < (vrRow vs).length) : ((vrRow vs)[k]?.getD #[]).size = 1 := by
  simp [vrRow] at h ⊢
  simp [h]
set_option maxHeartbeats 1000000 in
theorem vr_tells (N B : Nat) (ty : TypeId) (hN : 1 ≤ N) (a : Option Addr) (n c : Nat) (vs : List Value) (R : List (List Int)) (hn : n ≤ 140737488351232) (w : World) :
    TellsRowT True Fence.wide N Tryz.prog 40 #[ptr B] (VrIn B a n c vs R) ty (vrRow vs) w := by
  intro l J Jx W hW hK hDr hY h0
  clear hW
  rw [vrRow_len] at *
  have hR : Hid (R.length = n) := (hK _ _ h0).2.1
  have hlen : Hid (vs.length = n) := (hK _ _ h0).2.2.2.1.trans (hK _ _ h0).2.1
  have k0 : W.cell? ⟨B, 0, none⟩ = some (.slice a n c) := by have := (hK _ _ h0).1; simp [World.cell?, this]
  replace hY := Lib.hid hY
  replace hDr := Lib.hid hDr
  replace hK := Lib.hid hK
  refine callsIn_of_wp Tryz.func40 rfl trivial ?_ rfl
  simp only [Tryz.ntmps40, List.size_toArray, List.length_cons, List.length_nil, Nat.reduceAdd, Nat.reduceSub, Array.replicate_succ, Array.replicate_zero, List.push_toArray, List.append_toArray, List.nil_append, List.cons_append]
  gi_wp2_with fail
  clear k0
  gi_loopw [7] (fun u wr => ∃ j : Nat, j ≤ n ∧ u = .int .i64 j ∧ J j wr) (fun u _ => n - (intOf u).toNat)
  case atStart => exact ⟨0, Nat.zero_le _, rfl, h0⟩
  case round =>
    clear h0
    obtain ⟨j, hj, rfl, hJs⟩ := hrel
    by_cases hlt : j < n
    · have hlti : (j : Int) < n := by omega
      obtain ⟨x, hx⟩ : ∃ x, vs[j]? = some x := ⟨_, List.getElem?_eq_getElem (by rw [hlen.out]; exact hlt)⟩
      obtain ⟨r, hr⟩ : ∃ r, R[j]? = some r := ⟨_, List.getElem?_eq_getElem (by rw [hR.out]; exact hlt)⟩
      obtain ⟨b, o, ea, z0⟩ := (hK.out _ _ hJs).2.2.cell hx
      obtain ⟨x', hx', hnm⟩ := (hK.out _ _ hJs).2.2.at hr
      obtain rfl : x = x' := by rw [hx] at hx'; cases hx'; rfl
      subst ea
      obtain ⟨ax, cx, rfl, -⟩ := hnm
      generalize r.length = mr at *
      have Y0 := hY.out j (by rw [hlen.out]; exact hlt)
      rw [vrRow_at hx] at Y0
      replace Y0 := Y0 _ hJs
      clear hDr hJs hY hK hx hx' hr
      obtain ⟨fn, tmps, assign, body, hy, hR⟩ := Y0
      gi_wp2
      refine hR.mono ?_
      rintro e W3 (⟨rfl, hkt, hJ3⟩ | ⟨-, rfl, hJx3⟩)
      · gi_wp2
        go_roundw
        case rel => exact ⟨j + 1, hlt, by go_num, hJ3⟩
        case measure => simp [intOf]; omega
      · gi_wp2
        refine bodyPost_ret (results_none rfl _ _ _) rfl ?_
        exact ⟨⟨_, rfl⟩, .inr ⟨_, hJx3⟩⟩
    · obtain rfl : j = n := by omega
      gi_wp2
      go_end0
      exact ⟨⟨_, rfl⟩, .inl (by rw [hlen.out]; exact hJs)⟩
end Go.Proofs.YtccmnngeibpcmaaGreat.Tree
/- nfa.along. -/
namespace Go.Proofs.YtccmnngeibpcmaaGreat.Tree
open Go.ChangeShapes Go.WideShapes Go.ChangeAt Go.RowKit
set_option linter.unusedVariables false
set_option linter.unusedSimpArgs false
set_option maxRecDepth 100000
attribute [local go_sem] Oper.semAt_some
/-- States in a row of one's own, their guards in rows of one's own. -/
def OwnSts (W : World) (B : Nat) (v : Value) (L : List (St × Value)) : Prop := W.ownsRow B 41 6 v L.length (stsCells L) ∧ ∀ x ∈ L, W.ownsRow B 3 1 x.2 x.1.gs.length (ints x.1.gs)
theorem OwnSts.sts {W : World} {B : Nat} {v : Value} {L : List (St × Value)} (h : OwnSts W B v L) : StsL W v L := ⟨cells_of_row h.1, fun x hx => nms_own (h.2 x hx)⟩
theorem OwnSts.later {W W' : World} {B : Nat} {v : Value} {L : List (St × Value)} (h : OwnSts W B v L) (hb : Below W.heap.size W W') : OwnSts W' B v L := ⟨row_later h.1 hb, fun x hx => row_later (h.2 x hx) hb⟩
theorem OwnSts.base {W : World} {B b : Nat} {v : Value} {L : List (St × Value)} (h : OwnSts W B v L) (hb : b ≤ B) : OwnSts W b v L := ⟨row_base h.1 hb, fun x hx => row_base (h.2 x hx) hb⟩
theorem OwnSts.nil (W : World) (B : Nat) : OwnSts W B (.slice none 0 0) [] := ⟨World.ownsRow_nil _ _ _ _, fun x hx => by cases hx⟩
theorem grown_below {W X Y : World} {r : Option Nat} (h : W.grownBy X r) (hb : Below X.heap.size X Y) : W.grownBy Y r :=
  ⟨hb.os.trans h.os, hb.tape.trans h.tape, hb.output.trans h.output, Nat.le_trans h.size hb.size, fun k hk hr => (hb.block k (Nat.lt_of_lt_of_le hk h.size)).trans (h.block k hk hr)⟩
theorem grown_then {W X Y : World} {r r' : Option Nat} (h : W.grownBy X r) (k : X.grownBy Y r') (hr : ∀ g, r' = some g → r = some g ∨ W.heap.size ≤ g) : W.grownBy Y r :=
  ⟨k.os.trans h.os, k.tape.trans h.tape, k.output.trans h.output, Nat.le_trans h.size k.size, fun i hi hn => (k.block i (Nat.lt_of_lt_of_le hi h.size) (fun e => by
    rcases hr i e.symm with e2 | e2
    · exact hn e2.symm
    · omega)).trans (h.block i hi hn)⟩
theorem sts_lit (L : List (St × Value)) (s : St) (u : Value) : stsCells (L ++ [(s, u)]) = stsCells L ++ [.int .i64 s.step, .int .i64 s.place, .bool s.strict, u, .int .i64 s.ahead, .bool s.last] := by rw [stsCells_app]; rfl
/-- One state more. -/
theorem OwnSts.app {W w1 : World} {B : Nat} {v v' : Value} {L : List (St × Value)} {s : St} {u : Value} {o : Obj} (h : OwnSts W B v L) (hu : W.ownsRow B 3 1 u s.gs.length (ints s.gs)) (hg : (W.alloc o).grownBy w1 v.ownBlock)
    (hown : w1.ownsRow B 41 6 v' (L.length + 1) (stsCells L ++ [.int .i64 s.step, .int .i64 s.place, .bool s.strict, u, .int .i64 s.ahead, .bool s.last])) : OwnSts w1 B v' (L ++ [(s, u)]) := by
  refine ⟨by rw [List.length_append, sts_lit]; exact hown, fun x hx => ?_⟩
  have key : ∀ (z : Value) (l : List Int), W.ownsRow B 3 1 z l.length (ints l) → w1.ownsRow B 3 1 z l.length (ints l) := fun z l hz => row_kept (hz.alloc o) hg (own_is (h.1.alloc o) 3 (by decide))
  rcases List.mem_append.1 hx with hx | hx
  · exact key _ _ (h.2 x hx)
  · obtain rfl := List.mem_singleton.1 hx
    exact key _ _ hu
theorem Tryz.info41 : (Tryz.prog.info? 41).map (fun i => (i.zero, i.size, i.bytes)) = some (some (.agg #[.int .i64 0, .int .i64 0, .bool false, .slice none 0 0, .int .i64 0, .bool false]), 6, 64) := by kernel_rfl
/-- The row as it was. -/
def AlE (B : Nat) (v : Value) (L : List (St × Value)) (X : World) : Prop := OwnSts X B v L ∧ B ≤ X.heap.size
theorem AlE.later {B : Nat} {v : Value} {L : List (St × Value)} {X Y : World} (h : AlE B v L X) (hb : Below X.heap.size X Y) : AlE B v L Y := ⟨h.1.later hb, Nat.le_trans h.2 hb.size⟩
/-- What is at hand between the call for the guards and the append. -/
def AlF (B N : Nat) (v : Value) (L : List (St × Value)) (u : Value) (gl : List Int) (X : World) : Prop := OwnSts X B v L ∧ X.ownsRow B 3 1 u gl.length (ints gl) ∧ B ≤ X.heap.size ∧ ∀ g, u.ownBlock = some g → N ≤ g
theorem AlF.later {B N : Nat} {v : Value} {L : List (St × Value)} {u : Value} {gl : List Int} {X Y : World} (h : AlF B N v L u gl X) (hb : Below X.heap.size X Y) : AlF B N v L u gl Y := ⟨h.1.later hb, row_later h.2.1 hb, Nat.le_trans h.2.2.1 hb.size, h.2.2.2⟩
/-- The row with one state more. -/
def AlG (B : Nat) (v v' : Value) (N : Nat) (L : List (St × Value)) (u : Value) (X : World) : Prop := OwnSts X B v' L ∧ (∀ g, v'.ownBlock = some g → v.ownBlock = some g ∨ N ≤ g) ∧ ∀ g, u.ownBlock = some g → N ≤ g
theorem AlG.later {B : Nat} {v v' : Value} {N : Nat} {L : List (St × Value)} {u : Value} {X Y : World} (h : AlG B v v' N L u X) (hb : Below X.heap.size X Y) : AlG B v v' N L u Y := ⟨h.1.later hb, h.2⟩
theorem al_app {B N : Nat} {v v' : Value} {L : List (St × Value)} {s : St} {u : Value} {n : Nat} {X Y : World} (h : AlF B N v L u s.gs X) (hn : L.length = n) (hown : Y.ownsRow B 41 6 v' (n + 1) (stsCells L ++ [.int .i64 s.step, .int .i64 s.place, .bool s.strict, u, .int .i64 s.ahead, .bool s.last]))
    (hg : X.grownBy Y v.ownBlock) (hblk : ∀ g, v'.ownBlock = some g → v.ownBlock = some g ∨ g = X.heap.size) (hN : N ≤ X.heap.size) : AlG B v v' N (L ++ [(s, u)]) u Y := by
  subst hn
  refine ⟨⟨by rw [List.length_append, sts_lit]; exact hown, fun x hx => ?_⟩, fun g hg => ?_, h.2.2.2⟩
  · have key : ∀ (z : Value) (l : List Int), X.ownsRow B 3 1 z l.length (ints l) → Y.ownsRow B 3 1 z l.length (ints l) := fun z l hz => row_kept hz hg (own_is h.1.1 3 (by decide))
    rcases List.mem_append.1 hx with hx | hx
    · exact key _ _ (h.1.2 x hx)
    · obtain rfl := List.mem_singleton.1 hx
      exact key _ _ h.2.1
  · rcases hblk g hg with e | e
    · exact .inl e
    · exact .inr (by omega)
/-- A box of another type than the states' own is kept by what the row grows. -/
theorem box_grown {W X : World} {B p : Nat} {v : Value} {L : List (St × Value)} {cs : Array Value} {t : TypeId} (ht : t ≠ 41) (h : OwnSts W B v L) (hg : W.grownBy X v.ownBlock) (hp : W.heap[p]? = some (.cells cs t (0, 0))) : X.heap[p]? = some (.cells cs t (0, 0)) :=
  KeepsT.grown hg (own_is h.1 t ht) _ _ _ hp
theorem lit_state {o : Oper} {a : Act} {w : World} {K : Act → World → Prop} {Q : Exit → Act → World → Prop} (x : Operand) (i k ah : Int) (st ls : Bool) (a3 : Option Addr) (n3 c3 : Nat) (ho : o.op = .buildSlice 27 1 #[(0, x)])
    (e : a.eval x = .agg #[.int .i64 i, .int .i64 k, .bool st, .slice a3 n3 c3, .int .i64 ah, .bool ls])
    (h : K (a.put o.dst (.slice (some ⟨w.heap.size, 0, none⟩) 1 1)) (w.alloc (.cells #[.int .i64 i, .int .i64 k, .bool st, .slice a3 n3 c3, .int .i64 ah, .bool ls] 41))) : Oper.wp Tryz.prog o a w K Q := by
  obtain ⟨d, op, t, p, af, g⟩ := o
  dsimp only at ho h
  subst ho
  unfold Oper.wp
  simp only [execOp, e, Array.map_map, List.map_toArray, List.map_cons, List.map_nil]
  go_simp
  exact h
/-- A store into a box of numbers that is none of the guards'. -/
theorem OwnSts.box {X : World} {B p : Nat} {v : Value} {L : List (St × Value)} {t : TypeId} {cs : Array Value} (h : OwnSts X B v L) (ht : t ≠ 41) (hp : X.heap[p]? = some (.cells cs t (0, 0))) (hno : ∀ y ∈ L, ∀ g, y.2.ownBlock = some g → g ≠ p) (u : Value) : OwnSts (X.setCell ⟨p, 0, none⟩ u) B v L := by
  refine ⟨row_kept h.1 (grownBy_setCell_any X p 0 u) (fun r e => ?_), fun x hx => row_other (h.2 x hx) (grownBy_setCell_any X p 0 u) (fun g hg e => hno x hx g hg (Option.some.inj e).symm)⟩
  cases e
  exact ⟨_, hp, fun cs' fz e => by cases e; exact ht rfl⟩
/-- A region of a code by its number. -/
def regOf (id : Nat) : Code → Option Code
  | .region i o d => if i = id then some (.region i o d) else none
  | .loop c => regOf id c
  | .seq a b => match regOf id a with
    | some c => some c
    | none => regOf id b
  | .block _ c => regOf id c
  | .scope c => regOf id c
  | .cond _ a b => match regOf id a with
    | some c => some c
    | none => regOf id b
  | .rangeFunc _ _ a b => match regOf id a with
    | some c => some c
    | none => regOf id b
  | _ => none
noncomputable def reg25 : Code := (Tryz.f25.body.bind (regOf 8)).getD .skip
set_option maxHeartbeats 4000000 in
theorem along_reg8 {B n' c' np cp m cr bp op br orr S i k gn b9 : Nat} {a' : Option Addr} {L' : List (St × Value)} {win ah : Int} {st : Bool} {gl : List Int} {b0 : Option Nat} (w6 : World)
    (hn' : Hid (L'.length = n')) (hn4 : n' ≤ 1000000) (hil : i < np) (hb0 : Hid ((Value.slice a' n' c').ownBlock = b0)) (f00 : AlE B (.slice a' n' c') L' w6.drew) (hgn : Hid (gl.length = gn))
    (hF0 : Hid (∀ X, w6.drew.grownBy X b0 → X.cell? ⟨b9, 0, none⟩ = some (.int .i64 (i : Int)) ∧ X.cell? ⟨S, 0, none⟩ = some (.slice (some ⟨bp, op, none⟩) np cp) ∧ X.cell? ⟨S, 1, none⟩ = some (.int .i64 win) ∧ X.cell? ⟨S + 1, 0, none⟩ = some (.int .i64 ah) ∧ X.cell? ⟨bp, op + i * 6 + 4, none⟩ = some (.bool st)))
    (hgu0 : Hid (∀ X, w6.drew.grownBy X b0 → Calls Tryz.prog 47 #[ptV (.slice (some ⟨bp, op, none⟩) np cp) win, .slice (some ⟨br, orr, none⟩) m cr, .int .i64 k] X fun e Y => ∃ u, e = .returned u ∧ Y.ownsRow X.heap.size 3 1 u gl.length (ints gl) ∧ Below X.heap.size X Y))
    (u10 u11 u12 u13 u14 u15 u16 u17 u18 u19 u20 u21 u22 u23 u24 u42 u43 y25 y26 y27 y28 y29 y30 y31 y32 y33 y34 y35 y36 y37 y38 y39 y40 y41 : Value) (Q0 : Exit → Act → World → Prop)
    (hQ0 : ∀ (v41 : Value) (a37 : Option Addr) (c37 : Nat) (x25 x26 x27 x28 x29 x30 x31 x32 x33 x34 x35 x36 x37 x38 x39 x40 x41 : Value) (X : World), AlG B (.slice a' n' c') v41 w6.drew.heap.size (L' ++ [(⟨i, k, st, gl, ah, false⟩, .slice a37 gn c37)]) (.slice a37 gn c37) X → w6.drew.grownBy X b0 → Q0 .normal ({ tmps := #[v41, ptV (.slice (some ⟨bp, op, none⟩) np cp) win, .slice (some ⟨br, orr, none⟩) m cr, undef, .pointer (some ⟨S, 0, none⟩), undef, .slice none 0 0, .pointer (some ⟨S + 1, 0, none⟩), .int .i64 k, .pointer (some ⟨b9, 0, none⟩), u10, u11, u12, u13, u14, u15, u16, u17, u18, u19, u20, u21, u22, u23, u24, x25, x26, x27, x28, x29, x30, x31, x32, x33, x34, x35, x36, x37, x38, x39, x40, x41, u42, u43, undef, undef, undef, undef, undef], defers := [] }) X) :
    Code.wp Tryz.prog reg25 Q0 ({ tmps := #[.slice a' n' c', ptV (.slice (some ⟨bp, op, none⟩) np cp) win, .slice (some ⟨br, orr, none⟩) m cr, undef, .pointer (some ⟨S, 0, none⟩), undef, .slice none 0 0, .pointer (some ⟨S + 1, 0, none⟩), .int .i64 k, .pointer (some ⟨b9, 0, none⟩), u10, u11, u12, u13, u14, u15, u16, u17, u18, u19, u20, u21, u22, u23, u24, y25, y26, y27, y28, y29, y30, y31, y32, y33, y34, y35, y36, y37, y38, y39, y40, y41, u42, u43, undef, undef, undef, undef, undef], defers := [] }) w6 := by
  conv => arg 2; whnf
  obtain ⟨W0, hW0⟩ : ∃ W0, w6.drew = W0 := ⟨_, rfl⟩
  rw [hW0] at hF0 hgu0 f00 hQ0
  have hili : (i : Int) < np := by omega
  have hF := hF0
  have hgu := hgu0
  have f0 := f00
  obtain ⟨i41, hi41, hz0, hz1, hz2⟩ := info_parts Tryz.info41
  replace hi41 := Lib.hid hi41
  have hW' : W0.grownBy W0 b0 := World.grownBy.refl W0 _
  obtain ⟨z0', z1', z2', z3', z4'⟩ := hF.out W0 hW'
  have hmx : Tryz.prog.follows .mixedOrders = true := by kernel_rfl
  replace hQ0 := Lib.hid hQ0
  refine wp_region_noPanic ?_
  refine wp_region_held (S := fun Z => W0.grownBy Z b0) hmx ?_
  try dsimp only [List.append]
  change wpAnyH _ _ _ _ _ _ _ _ w6.drew
  rw [hW0]
  generalize hops : (List.toArray _ : Array Oper) = ops
  generalize hQQ : NoPanic _ = QQ
  have hQp : ∀ (d : Option Tmp) (v : Value) (c : _) (a : Act) (w : World), QQ (.panic c) (a.put d v) w → QQ (.panic c) a w := by rw [← hQQ]; intro d v c a w h; exact h
  have hNS : Region.noSelect ops = true := by rw [← hops]; kernel_rfl
  obtain ⟨oo, hop0⟩ : ∃ o, ops[0]? = some o := ⟨_, by rw [← hops]; rfl⟩
  have hv := hop0
  rw [← hops] at hv
  simp only [List.getElem?_toArray, List.getElem?_cons_succ, List.getElem?_cons_zero, Option.some.injEq] at hv
  subst hv
  obtain ⟨oo, hop1⟩ : ∃ o, ops[1]? = some o := ⟨_, by rw [← hops]; rfl⟩
  have hv := hop1
  rw [← hops] at hv
  simp only [List.getElem?_toArray, List.getElem?_cons_succ, List.getElem?_cons_zero, Option.some.injEq] at hv
  subst hv
  obtain ⟨oo, hop2⟩ : ∃ o, ops[2]? = some o := ⟨_, by rw [← hops]; rfl⟩
  have hv := hop2
  rw [← hops] at hv
  simp only [List.getElem?_toArray, List.getElem?_cons_succ, List.getElem?_cons_zero, Option.some.injEq] at hv
  subst hv
  obtain ⟨oo, hop3⟩ : ∃ o, ops[3]? = some o := ⟨_, by rw [← hops]; rfl⟩
  have hv := hop3
  rw [← hops] at hv
  simp only [List.getElem?_toArray, List.getElem?_cons_succ, List.getElem?_cons_zero, Option.some.injEq] at hv
  subst hv
  obtain ⟨oo, hop4⟩ : ∃ o, ops[4]? = some o := ⟨_, by rw [← hops]; rfl⟩
  have hv := hop4
  rw [← hops] at hv
  simp only [List.getElem?_toArray, List.getElem?_cons_succ, List.getElem?_cons_zero, Option.some.injEq] at hv
  subst hv
  obtain ⟨oo, hop5⟩ : ∃ o, ops[5]? = some o := ⟨_, by rw [← hops]; rfl⟩
  have hv := hop5
  rw [← hops] at hv
  simp only [List.getElem?_toArray, List.getElem?_cons_succ, List.getElem?_cons_zero, Option.some.injEq] at hv
  subst hv
  obtain ⟨oo, hop6⟩ : ∃ o, ops[6]? = some o := ⟨_, by rw [← hops]; rfl⟩
  have hv := hop6
  rw [← hops] at hv
  simp only [List.getElem?_toArray, List.getElem?_cons_succ, List.getElem?_cons_zero, Option.some.injEq] at hv
  subst hv
  obtain ⟨oo, hop7⟩ : ∃ o, ops[7]? = some o := ⟨_, by rw [← hops]; rfl⟩
  have hv := hop7
  rw [← hops] at hv
  simp only [List.getElem?_toArray, List.getElem?_cons_succ, List.getElem?_cons_zero, Option.some.injEq] at hv
  subst hv
  obtain ⟨oo, hop8⟩ : ∃ o, ops[8]? = some o := ⟨_, by rw [← hops]; rfl⟩
  have hv := hop8
  rw [← hops] at hv
  simp only [List.getElem?_toArray, List.getElem?_cons_succ, List.getElem?_cons_zero, Option.some.injEq] at hv
  subst hv
  obtain ⟨oo, hop9⟩ : ∃ o, ops[9]? = some o := ⟨_, by rw [← hops]; rfl⟩
  have hv := hop9
  rw [← hops] at hv
  simp only [List.getElem?_toArray, List.getElem?_cons_succ, List.getElem?_cons_zero, Option.some.injEq] at hv
  subst hv
  obtain ⟨oo, hop10⟩ : ∃ o, ops[10]? = some o := ⟨_, by rw [← hops]; rfl⟩
  have hv := hop10
  rw [← hops] at hv
  simp only [List.getElem?_toArray, List.getElem?_cons_succ, List.getElem?_cons_zero, Option.some.injEq] at hv
  subst hv
  obtain ⟨oo, hop11⟩ : ∃ o, ops[11]? = some o := ⟨_, by rw [← hops]; rfl⟩
  have hv := hop11
  rw [← hops] at hv
  simp only [List.getElem?_toArray, List.getElem?_cons_succ, List.getElem?_cons_zero, Option.some.injEq] at hv
  subst hv
  obtain ⟨oo, hop12⟩ : ∃ o, ops[12]? = some o := ⟨_, by rw [← hops]; rfl⟩
  have hv := hop12
  rw [← hops] at hv
  simp only [List.getElem?_toArray, List.getElem?_cons_succ, List.getElem?_cons_zero, Option.some.injEq] at hv
  subst hv
  obtain ⟨oo, hop13⟩ : ∃ o, ops[13]? = some o := ⟨_, by rw [← hops]; rfl⟩
  have hv := hop13
  rw [← hops] at hv
  simp only [List.getElem?_toArray, List.getElem?_cons_succ, List.getElem?_cons_zero, Option.some.injEq] at hv
  subst hv
  obtain ⟨oo, hop14⟩ : ∃ o, ops[14]? = some o := ⟨_, by rw [← hops]; rfl⟩
  have hv := hop14
  rw [← hops] at hv
  simp only [List.getElem?_toArray, List.getElem?_cons_succ, List.getElem?_cons_zero, Option.some.injEq] at hv
  subst hv
  obtain ⟨oo, hop15⟩ : ∃ o, ops[15]? = some o := ⟨_, by rw [← hops]; rfl⟩
  have hv := hop15
  rw [← hops] at hv
  simp only [List.getElem?_toArray, List.getElem?_cons_succ, List.getElem?_cons_zero, Option.some.injEq] at hv
  subst hv
  obtain ⟨oo, hop16⟩ : ∃ o, ops[16]? = some o := ⟨_, by rw [← hops]; rfl⟩
  have hv := hop16
  rw [← hops] at hv
  simp only [List.getElem?_toArray, List.getElem?_cons_succ, List.getElem?_cons_zero, Option.some.injEq] at hv
  subst hv
  obtain ⟨oo, hop17⟩ : ∃ o, ops[17]? = some o := ⟨_, by rw [← hops]; rfl⟩
  have hv := hop17
  rw [← hops] at hv
  simp only [List.getElem?_toArray, List.getElem?_cons_succ, List.getElem?_cons_zero, Option.some.injEq] at hv
  subst hv
  have H16 : ∀ (s0 s26 s27 s28 s29 s30 s31 s32 s33 s34 s35 s36 s38 s39 s41 : Value) (a37 : Option Addr) (c37 : Nat) (p40 : Nat) (X : World), W0.grownBy X b0 → AlE B (.slice a' n' c') L' X → AlF B W0.heap.size (.slice a' n' c') L' (.slice a37 gn c37) gl X → CellsAt X (some ⟨p40, 0, none⟩) [.int .i64 i, .int .i64 k, .bool st, .slice a37 gn c37, .int .i64 ah, .bool false] → wpAnyH Tryz.prog .any ops QQ (fun Z => W0.grownBy Z b0) 2 (fsH 18 16 []) ({ tmps := #[s0, ptV (.slice (some ⟨bp, op, none⟩) np cp) win, .slice (some ⟨br, orr, none⟩) m cr, undef, .pointer (some ⟨S, 0, none⟩), undef, .slice none 0 0, .pointer (some ⟨S + 1, 0, none⟩), .int .i64 k, .pointer (some ⟨b9, 0, none⟩), u10, u11, u12, u13, u14, u15, u16, u17, u18, u19, u20, u21, u22, u23, u24, .slice a' n' c', s26, s27, s28, s29, s30, s31, s32, s33, s34, s35, s36, .slice a37 gn c37, s38, s39, .slice (some ⟨p40, 0, none⟩) 1 1, s41, u42, u43, undef, undef, undef, undef, undef], defers := [] }) X := by
    as_aux_lemma =>
    intro s0 s26 s27 s28 s29 s30 s31 s32 s33 s34 s35 s36 s38 s39 s41 a37 c37 p40 X hW' f0 f37 f40
    refine wpAnyH_all (rs := [16]) (by rw [← hops]; kernel_rfl) (by simp) ?_
    intro ix hix
    simp only [List.mem_cons, List.not_mem_nil, or_false] at hix
    rcases hix with rfl
    · refine held_op hop16 (by rfl) (fun K' hK => ?_)
      refine wp_append_blk (.tmp 25) (.tmp 40) 27 rfl B 41 i41 (.agg #[.int .i64 0, .int .i64 0, .bool false, .slice none 0 0, .int .i64 0, .bool false]) 6 64 Tryz.underlying27 hi41.out hz0 hz1 hz2 rfl (by decide) (.slice a' n' c') n' (stsCells L') (by rfl) (by have := f37.1.1; rw [hn'.out] at this; exact this) (some ⟨p40, 0, none⟩) 1 1 [.int .i64 i, .int .i64 k, .bool st, .slice a37 gn c37, .int .i64 ah, .bool false] (by rfl) rfl f40 (by simp [Value.oneCell']) (by unfold maxLen; omega) (by omega) f37.2.2.1 ?_
      intro v41 Y hown hgr hblk
      have f41 : AlG B (.slice a' n' c') v41 W0.heap.size (L' ++ [(⟨i, k, st, gl, ah, false⟩, .slice a37 gn c37)]) (.slice a37 gn c37) Y := al_app f37 hn'.out hown hgr hblk hW'.size
      rw [hb0.out] at hgr
      replace hW' := grown_then hW' hgr (fun g hg => .inl hg)
      refine hK _ _ ⟨hW', ?_⟩
      clear hK K'
      (try simp only [Act.put, List.setIfInBounds_toArray, List.set_cons_zero, List.set_cons_succ])
      rw [show (fsH 18 16 []).setIfInBounds 16 true = (fsH 18 17 []) from by kernel_rfl]
      refine wpAnyH_take (i := 17) (v := v41) hop17 hNS (by rw [← hops]; kernel_rfl) (by rw [← hops]; kernel_rfl) (hQp _ _) (.inl ⟨(by rfl), fun wz hz => by
          have hW' := hz
          first | (go_simp; done) | (obtain ⟨z0', z1', z2', z3', z4'⟩ := hF.out _ hW'; go_simp)⟩) hW' ?_
      (try simp only [Act.put, List.setIfInBounds_toArray, List.set_cons_zero, List.set_cons_succ])
      rw [show (fsH 18 17 []).setIfInBounds 17 true = (fsH 18 18 []) from by kernel_rfl]
      refine wpAnyH_done (by rw [← hops]; kernel_rfl) ?_ _
      rw [← hQQ]
      exact NoPanic.normal (hQ0.out _ _ _ _ _ _ _ _ _ _ _ _ _ _ _ _ _ _ _ _ _ f41 hW')
  have H15 : ∀ (s0 s26 s27 s28 s29 s30 s31 s32 s33 s34 s35 s36 s38 s40 s41 : Value) (a37 : Option Addr) (c37 : Nat) (X : World), W0.grownBy X b0 → AlE B (.slice a' n' c') L' X → AlF B W0.heap.size (.slice a' n' c') L' (.slice a37 gn c37) gl X → wpAnyH Tryz.prog .any ops QQ (fun Z => W0.grownBy Z b0) 3 (fsH 18 15 []) ({ tmps := #[s0, ptV (.slice (some ⟨bp, op, none⟩) np cp) win, .slice (some ⟨br, orr, none⟩) m cr, undef, .pointer (some ⟨S, 0, none⟩), undef, .slice none 0 0, .pointer (some ⟨S + 1, 0, none⟩), .int .i64 k, .pointer (some ⟨b9, 0, none⟩), u10, u11, u12, u13, u14, u15, u16, u17, u18, u19, u20, u21, u22, u23, u24, .slice a' n' c', s26, s27, s28, s29, s30, s31, s32, s33, s34, s35, s36, .slice a37 gn c37, s38, .agg #[.int .i64 i, .int .i64 k, .bool st, .slice a37 gn c37, .int .i64 ah, .bool false], s40, s41, u42, u43, undef, undef, undef, undef, undef], defers := [] }) X := by
    as_aux_lemma =>
    intro s0 s26 s27 s28 s29 s30 s31 s32 s33 s34 s35 s36 s38 s40 s41 a37 c37 X hW' f0 f37
    refine wpAnyH_all (rs := [15]) (by rw [← hops]; kernel_rfl) (by simp) ?_
    intro ix hix
    simp only [List.mem_cons, List.not_mem_nil, or_false] at hix
    rcases hix with rfl
    · refine held_op hop15 (by rfl) (fun K' hK => ?_)
      refine lit_state (.tmp 39) i k ah st false a37 gn c37 rfl (by rfl) ?_
      have f40 := cells_lit X [.int .i64 i, .int .i64 k, .bool st, .slice a37 gn c37, .int .i64 ah, .bool false] 41
      replace f0 := f0.later (kept_new X (.cells #[.int .i64 i, .int .i64 k, .bool st, .slice a37 gn c37, .int .i64 ah, .bool false] 41))
      replace f37 := f37.later (kept_new X (.cells #[.int .i64 i, .int .i64 k, .bool st, .slice a37 gn c37, .int .i64 ah, .bool false] 41))
      replace hW' := grown_below hW' (kept_new X (.cells #[.int .i64 i, .int .i64 k, .bool st, .slice a37 gn c37, .int .i64 ah, .bool false] 41))
      refine hK _ _ ⟨hW', ?_⟩
      clear hK K'
      (try simp only [Act.put, List.setIfInBounds_toArray, List.set_cons_zero, List.set_cons_succ])
      rw [show (fsH 18 15 []).setIfInBounds 15 true = (fsH 18 16 []) from by kernel_rfl]
      exact H16 _ _ _ _ _ _ _ _ _ _ _ _ _ _ _ _ _ _ _ hW' f0 f37 f40
  have H12_13 : ∀ (s0 s28 s29 s30 s31 s32 s37 s39 s40 s41 : Value) (X : World), W0.grownBy X b0 → AlE B (.slice a' n' c') L' X → wpAnyH Tryz.prog .any ops QQ (fun Z => W0.grownBy Z b0) 5 (fsH 18 12 [13]) ({ tmps := #[s0, ptV (.slice (some ⟨bp, op, none⟩) np cp) win, .slice (some ⟨br, orr, none⟩) m cr, undef, .pointer (some ⟨S, 0, none⟩), undef, .slice none 0 0, .pointer (some ⟨S + 1, 0, none⟩), .int .i64 k, .pointer (some ⟨b9, 0, none⟩), u10, u11, u12, u13, u14, u15, u16, u17, u18, u19, u20, u21, u22, u23, u24, .slice a' n' c', .int .i64 i, .int .i64 k, s28, s29, s30, s31, s32, .bool st, ptV (.slice (some ⟨bp, op, none⟩) np cp) win, .slice (some ⟨br, orr, none⟩) m cr, .int .i64 k, s37, .int .i64 ah, s39, s40, s41, u42, u43, undef, undef, undef, undef, undef], defers := [] }) X := by
    as_aux_lemma =>
    intro s0 s28 s29 s30 s31 s32 s37 s39 s40 s41 X hW' f0
    refine wpAnyH_all (rs := [12]) (by rw [← hops]; kernel_rfl) (by simp) ?_
    intro ix hix
    simp only [List.mem_cons, List.not_mem_nil, or_false] at hix
    rcases hix with rfl
    · refine held_op hop12 (by rfl) (fun K' hK => ?_)
      have ff0 := f0
      go_simp
      refine (hgu.out X hW').mono ?_
      rintro e Y ⟨u, rfl, ho, hb⟩
      dsimp only
      obtain ⟨a37, c37, rfl, -⟩ := nms_own ho
      rw [hgn.out] at ho
      rw [hgn.out]
      replace f0 := f0.later hb
      have f37 : AlF B W0.heap.size (.slice a' n' c') L' (.slice a37 gn c37) gl Y := ⟨ff0.1.later hb, by rw [hgn.out]; exact row_base ho ff0.2, Nat.le_trans ff0.2 hb.size, fun g hg => Nat.le_trans hW'.size (own_ge ho g hg)⟩
      replace hW' := grown_below hW' hb
      refine hK _ _ ⟨hW', ?_⟩
      clear hK K'
      (try simp only [Act.put, List.setIfInBounds_toArray, List.set_cons_zero, List.set_cons_succ])
      rw [show (fsH 18 12 [13]).setIfInBounds 12 true = (fsH 18 14 []) from by kernel_rfl]
      refine wpAnyH_take (i := 14) (v := .agg #[.int .i64 i, .int .i64 k, .bool st, .slice a37 gn c37, .int .i64 ah, .bool false]) hop14 hNS (by rw [← hops]; kernel_rfl) (by rw [← hops]; kernel_rfl) (hQp _ _) (.inl ⟨(by rfl), fun wz hz => by
          have hW' := hz
          first | (go_simp; done) | (obtain ⟨z0', z1', z2', z3', z4'⟩ := hF.out _ hW'; go_simp)⟩) hW' ?_
      (try simp only [Act.put, List.setIfInBounds_toArray, List.set_cons_zero, List.set_cons_succ])
      rw [show (fsH 18 14 []).setIfInBounds 14 true = (fsH 18 15 []) from by kernel_rfl]
      exact H15 _ _ _ _ _ _ _ _ _ _ _ _ _ _ _ _ _ _ hW' f0 f37
  have hsz : ops.size = 18 := by rw [← hops]; rfl
  rw [hsz]
  rw [show Array.replicate 18 false = (fsH 18 0 []) from by rfl]
  refine wpAnyH_take (i := 0) (v := .slice a' n' c') hop0 hNS (by rw [← hops]; kernel_rfl) (by rw [← hops]; kernel_rfl) (hQp _ _) (.inl ⟨(by rfl), fun wz hz => by
      have hW' := hz
      first | (go_simp; done) | (obtain ⟨z0', z1', z2', z3', z4'⟩ := hF.out _ hW'; go_simp)⟩) hW' ?_
  (try simp only [Act.put, List.setIfInBounds_toArray, List.set_cons_zero, List.set_cons_succ])
  rw [show (fsH 18 0 []).setIfInBounds 0 true = (fsH 18 1 []) from by kernel_rfl]
  refine wpAnyH_take (i := 1) (v := .int .i64 i) hop1 hNS (by rw [← hops]; kernel_rfl) (by rw [← hops]; kernel_rfl) (hQp _ _) (.inl ⟨(by rfl), fun wz hz => by
      have hW' := hz
      first | (go_simp; done) | (obtain ⟨z0', z1', z2', z3', z4'⟩ := hF.out _ hW'; go_simp)⟩) hW' ?_
  (try simp only [Act.put, List.setIfInBounds_toArray, List.set_cons_zero, List.set_cons_succ])
  rw [show (fsH 18 1 []).setIfInBounds 1 true = (fsH 18 2 []) from by kernel_rfl]
  refine wpAnyH_take (i := 2) (v := .int .i64 k) hop2 hNS (by rw [← hops]; kernel_rfl) (by rw [← hops]; kernel_rfl) (hQp _ _) (.inl ⟨(by rfl), fun wz hz => by
      have hW' := hz
      first | (go_simp; done) | (obtain ⟨z0', z1', z2', z3', z4'⟩ := hF.out _ hW'; go_simp)⟩) hW' ?_
  (try simp only [Act.put, List.setIfInBounds_toArray, List.set_cons_zero, List.set_cons_succ])
  rw [show (fsH 18 2 []).setIfInBounds 2 true = (fsH 18 3 []) from by kernel_rfl]
  refine wpAnyH_take (i := 3) (v := .pointer (some ⟨S, 0, none⟩)) hop3 hNS (by rw [← hops]; kernel_rfl) (by rw [← hops]; kernel_rfl) (hQp _ _) (.inl ⟨(by rfl), fun wz hz => by
      have hW' := hz
      first | (go_simp; done) | (obtain ⟨z0', z1', z2', z3', z4'⟩ := hF.out _ hW'; go_simp)⟩) hW' ?_
  (try simp only [Act.put, List.setIfInBounds_toArray, List.set_cons_zero, List.set_cons_succ])
  rw [show (fsH 18 3 []).setIfInBounds 3 true = (fsH 18 4 []) from by kernel_rfl]
  refine wpAnyH_take (i := 4) (v := .slice (some ⟨bp, op, none⟩) np cp) hop4 hNS (by rw [← hops]; kernel_rfl) (by rw [← hops]; kernel_rfl) (hQp _ _) (.inl ⟨(by rfl), fun wz hz => by
      have hW' := hz
      first | (go_simp; done) | (obtain ⟨z0', z1', z2', z3', z4'⟩ := hF.out _ hW'; go_simp)⟩) hW' ?_
  (try simp only [Act.put, List.setIfInBounds_toArray, List.set_cons_zero, List.set_cons_succ])
  rw [show (fsH 18 4 []).setIfInBounds 4 true = (fsH 18 5 []) from by kernel_rfl]
  refine wpAnyH_take (i := 5) (v := .int .i64 i) hop5 hNS (by rw [← hops]; kernel_rfl) (by rw [← hops]; kernel_rfl) (hQp _ _) (.inl ⟨(by rfl), fun wz hz => by
      have hW' := hz
      first | (go_simp; done) | (obtain ⟨z0', z1', z2', z3', z4'⟩ := hF.out _ hW'; go_simp)⟩) hW' ?_
  (try simp only [Act.put, List.setIfInBounds_toArray, List.set_cons_zero, List.set_cons_succ])
  rw [show (fsH 18 5 []).setIfInBounds 5 true = (fsH 18 6 []) from by kernel_rfl]
  refine wpAnyH_take (i := 6) (v := .pointer (some ⟨bp, op + i * 6, none⟩)) hop6 hNS (by rw [← hops]; kernel_rfl) (by rw [← hops]; kernel_rfl) (hQp _ _) (.inl ⟨(by rfl), fun wz hz => by
      have hW' := hz
      first | (go_simp; done) | (obtain ⟨z0', z1', z2', z3', z4'⟩ := hF.out _ hW'; go_simp)⟩) hW' ?_
  (try simp only [Act.put, List.setIfInBounds_toArray, List.set_cons_zero, List.set_cons_succ])
  rw [show (fsH 18 6 []).setIfInBounds 6 true = (fsH 18 7 []) from by kernel_rfl]
  refine wpAnyH_take (i := 7) (v := .pointer (some ⟨bp, op + i * 6 + 4, none⟩)) hop7 hNS (by rw [← hops]; kernel_rfl) (by rw [← hops]; kernel_rfl) (hQp _ _) (.inl ⟨(by rfl), fun wz hz => by
      have hW' := hz
      first | (go_simp; done) | (obtain ⟨z0', z1', z2', z3', z4'⟩ := hF.out _ hW'; go_simp)⟩) hW' ?_
  (try simp only [Act.put, List.setIfInBounds_toArray, List.set_cons_zero, List.set_cons_succ])
  rw [show (fsH 18 7 []).setIfInBounds 7 true = (fsH 18 8 []) from by kernel_rfl]
  refine wpAnyH_take (i := 8) (v := .bool st) hop8 hNS (by rw [← hops]; kernel_rfl) (by rw [← hops]; kernel_rfl) (hQp _ _) (.inl ⟨(by rfl), fun wz hz => by
      have hW' := hz
      first | (go_simp; done) | (obtain ⟨z0', z1', z2', z3', z4'⟩ := hF.out _ hW'; go_simp)⟩) hW' ?_
  (try simp only [Act.put, List.setIfInBounds_toArray, List.set_cons_zero, List.set_cons_succ])
  rw [show (fsH 18 8 []).setIfInBounds 8 true = (fsH 18 9 []) from by kernel_rfl]
  refine wpAnyH_take (i := 9) (v := ptV (.slice (some ⟨bp, op, none⟩) np cp) win) hop9 hNS (by rw [← hops]; kernel_rfl) (by rw [← hops]; kernel_rfl) (hQp _ _) (.inl ⟨(by rfl), fun wz hz => by
      have hW' := hz
      first | (go_simp; done) | (obtain ⟨z0', z1', z2', z3', z4'⟩ := hF.out _ hW'; go_simp)⟩) hW' ?_
  (try simp only [Act.put, List.setIfInBounds_toArray, List.set_cons_zero, List.set_cons_succ])
  rw [show (fsH 18 9 []).setIfInBounds 9 true = (fsH 18 10 []) from by kernel_rfl]
  refine wpAnyH_take (i := 10) (v := .slice (some ⟨br, orr, none⟩) m cr) hop10 hNS (by rw [← hops]; kernel_rfl) (by rw [← hops]; kernel_rfl) (hQp _ _) (.inl ⟨(by rfl), fun wz hz => by
      have hW' := hz
      first | (go_simp; done) | (obtain ⟨z0', z1', z2', z3', z4'⟩ := hF.out _ hW'; go_simp)⟩) hW' ?_
  (try simp only [Act.put, List.setIfInBounds_toArray, List.set_cons_zero, List.set_cons_succ])
  rw [show (fsH 18 10 []).setIfInBounds 10 true = (fsH 18 11 []) from by kernel_rfl]
  refine wpAnyH_take (i := 11) (v := .int .i64 k) hop11 hNS (by rw [← hops]; kernel_rfl) (by rw [← hops]; kernel_rfl) (hQp _ _) (.inl ⟨(by rfl), fun wz hz => by
      have hW' := hz
      first | (go_simp; done) | (obtain ⟨z0', z1', z2', z3', z4'⟩ := hF.out _ hW'; go_simp)⟩) hW' ?_
  (try simp only [Act.put, List.setIfInBounds_toArray, List.set_cons_zero, List.set_cons_succ])
  rw [show (fsH 18 11 []).setIfInBounds 11 true = (fsH 18 12 []) from by kernel_rfl]
  refine wpAnyH_take (i := 13) (v := .int .i64 ah) hop13 hNS (by rw [← hops]; kernel_rfl) (by rw [← hops]; kernel_rfl) (hQp _ _) (.inl ⟨(by rfl), fun wz hz => by
      have hW' := hz
      first | (go_simp; done) | (obtain ⟨z0', z1', z2', z3', z4'⟩ := hF.out _ hW'; go_simp)⟩) hW' ?_
  (try simp only [Act.put, List.setIfInBounds_toArray, List.set_cons_zero, List.set_cons_succ])
  rw [show (fsH 18 12 []).setIfInBounds 13 true = (fsH 18 12 [13]) from by kernel_rfl]
  exact H12_13 _ _ _ _ _ _ _ _ _ _ _ hW' f0
end Go.Proofs.YtccmnngeibpcmaaGreat.Tree
/- nfa.along: the contract. -/
namespace Go.Proofs.YtccmnngeibpcmaaGreat.Tree
open Go.ChangeShapes Go.WideShapes Go.ChangeAt Go.RowKit
set_option linter.unusedVariables false
set_option linter.unusedSimpArgs false
set_option maxRecDepth 100000
attribute [local go_sem] Oper.semAt_some
theorem sts_last (L : List (St × Value)) : ∀ (j : Nat) (s : St) (u : Value), L[j]? = some (s, u) → (stsCells L).set (j * 6 + 5) (.bool true) = stsCells (L.set j ({ s with last := true }, u)) := by
  induction L with
  | nil => intro j s u h; simp at h
  | cons x L ih =>
    intro j s u h
    cases j with
    | zero =>
      simp at h
      subst h
      simp [stsCells]
    | succ j =>
      have := ih j s u (by simpa using h)
      rw [List.set_cons_succ]
      have e : ∀ (y : St × Value) (M : List (St × Value)), stsCells (y :: M) = [.int .i64 y.1.step, .int .i64 y.1.place, .bool y.1.strict, y.2, .int .i64 y.1.ahead, .bool y.1.last] ++ stsCells M := fun y M => rfl
      rw [e, e, ← this, List.set_append_right _ _ (by simp; omega)]
      congr 2
      simp
      omega
theorem mark_map {L : List (St × Value)} {j : Nat} {s : St} {u : Value} (h : L[j]? = some (s, u)) : (L.set j ({ s with last := true }, u)).map (·.1) = markL (L.map (·.1)) j := by
  unfold markL
  rw [List.map_set, stA_of (s := s) (by simp [h])]
/-- The last of the states is marked. -/
theorem OwnSts.last {X : World} {B g n c : Nat} {L : List (St × Value)} (h : OwnSts X B (.slice (some ⟨g, 0, none⟩) n c) L) (hn : L.length = n) {j : Nat} {s : St} {u : Value} (hj : L[j]? = some (s, u)) :
    OwnSts (X.setCell ⟨g, j * 6 + 5, none⟩ (.bool true)) B (.slice (some ⟨g, 0, none⟩) n c) (L.set j ({ s with last := true }, u)) := by
  subst hn
  have hst := (h.1.stored (j * 6 + 5) (.bool true)).1
  rw [sts_last L j s u hj] at hst
  refine ⟨by rw [List.length_set]; exact hst, fun x hx => ?_⟩
  have key : ∀ (z : Value) (l : List Int), X.ownsRow B 3 1 z l.length (ints l) → (X.setCell ⟨g, j * 6 + 5, none⟩ (.bool true)).ownsRow B 3 1 z l.length (ints l) := fun z l hz => row_kept hz (grownBy_setCell_any X g _ _) (own_is h.1 3 (by decide))
  rcases List.mem_or_eq_of_mem_set hx with hx | rfl
  · exact key _ _ (h.2 x hx)
  · exact key _ _ (h.2 (s, u) (List.mem_of_getElem? hj))
set_option maxHeartbeats 4000000 in
theorem along_V {B : Nat} {v pv rv : Value} {L : List (St × Value)} {Lp : List (Sp × Value)} (win : Int) {q : List Int} (hc : UnOk Lp) (hq : ∀ y ∈ q, 0 ≤ y ∧ y < Lp.length) (hq1 : 1 ≤ q.length) (hq4 : q.length ≤ 100) (hL : L.length ≤ 10000)
    (w : World) (hB : B ≤ w.heap.size) (h : OwnSts w B v L) (hp : ∀ X, w.grownBy X v.ownBlock → SpsL X pv Lp ∧ NmsC X rv q) :
    Calls Tryz.prog 25 #[v, ptV pv win, rv] w fun e w' => ∃ v' L', e = .returned v' ∧ OwnSts w' B v' L' ∧ L'.map (·.1) = alongL (Lp.map (·.1)) win q (L.map (·.1)) ∧ w.grownBy w' v.ownBlock ∧ (∀ g, v'.ownBlock = some g → v.ownBlock = some g ∨ w.heap.size ≤ g) := by
  obtain ⟨ap, cp, epv⟩ := (hp w (World.grownBy.refl w _)).1.lit rfl
  obtain ⟨ar, cr, erv, -, -⟩ := (hp w (World.grownBy.refl w _)).2
  subst epv erv
  obtain ⟨np, hnp⟩ : ∃ n, Lp.length = n := ⟨_, rfl⟩
  obtain ⟨m, hm⟩ : ∃ n, q.length = n := ⟨_, rfl⟩
  rw [hnp] at hp hq ⊢
  rw [hm] at hp hq1 hq4 ⊢
  obtain ⟨r0, hr0⟩ : ∃ r, v.ownBlock = r := ⟨_, rfl⟩
  have hv0 : Hid (∀ g, v.ownBlock = some g → r0 = some g ∨ w.heap.size ≤ g) := fun g hg => .inl (hr0 ▸ hg)
  rw [hr0] at hp ⊢
  obtain ⟨ss, hss⟩ : ∃ ss, L.map (·.1) = ss := ⟨_, rfl⟩
  obtain ⟨ps, hps⟩ : ∃ ps, Lp.map (·.1) = ps := ⟨_, rfl⟩
  rw [hss, hps]
  replace hp := Lib.hid hp
  replace hss := Lib.hid hss
  replace hps := Lib.hid hps
  replace hm := Lib.hid hm
  replace hnp := Lib.hid hnp
  replace hr0 := Lib.hid hr0
  obtain ⟨av, cv, hvl⟩ := h.sts.lit rfl
  subst hvl
  generalize hnl : L.length = nl at *
  replace hnl := Lib.hid hnl
  have hb1 := kept_new w (.cells #[.slice ap np cp, .int .i64 win] 24)
  have hb2 := kept_new (w.alloc (.cells #[.slice ap np cp, .int .i64 win] 24)) (.cells #[.int .i64 (-1)] 3)
  have hI0 : OwnSts ((w.alloc (.cells #[.slice ap np cp, .int .i64 win] 24)).alloc (.cells #[.int .i64 (-1)] 3)) B (.slice av nl cv) L := (h.later hb1).later hb2
  go_enter Tryz.func25, Tryz.ntmps25
  have hG0 : w.grownBy ((w.alloc (.cells #[.slice ap np cp, .int .i64 win] 24)).alloc (.cells #[.int .i64 (-1)] 3)) r0 := grown_below (grown_below (World.grownBy.refl w r0) hb1) hb2
  have hX0 : ((w.alloc (.cells #[.slice ap np cp, .int .i64 win] 24)).alloc (.cells #[.int .i64 (-1)] 3)).heap[w.heap.size + 1]? = some (.cells #[.int .i64 (-1)] 3 (0, 0)) := by
    have := heap_alloc_new (w.alloc (.cells #[.slice ap np cp, .int .i64 win] 24)) (.cells #[.int .i64 (-1)] 3); rwa [World.size_alloc] at this
  have hP0 := (PtBox.new w (.slice ap np cp) win).later hb2
  have hS0 : w.heap.size + 1 < ((w.alloc (.cells #[.slice ap np cp, .int .i64 win] 24)).alloc (.cells #[.int .i64 (-1)] 3)).heap.size := by simp
  have hN0 : Hid (∀ y ∈ L, ∀ g, y.2.ownBlock = some g → g ≠ w.heap.size + 1) := Lib.hid fun y hy g hg => by have := ((h.2 y hy).lt g hg).2; omega
  clear hb1 hb2 h
  go_wp2_with fail
  generalize (w.alloc (.cells #[.slice ap np cp, .int .i64 win] 24)).alloc (.cells #[.int .i64 (-1)] 3) = W1 at *
  obtain ⟨S, hS⟩ : ∃ S, w.heap.size = S := ⟨_, rfl⟩
  rw [hS] at hX0 hP0 hS0 hB hv0 hN0 ⊢
  replace hI0 := Lib.hid hI0
  replace hG0 := Lib.hid hG0
  replace hX0 := Lib.hid hX0
  replace hP0 := Lib.hid hP0
  replace hS := Lib.hid hS
  replace hS0 := Lib.hid hS0
  go_loopw [0, 13] (fun u0 u13 wr => ∃ (k : Nat) (a' : Option Addr) (n' c' : Nat) (L' : List (St × Value)), k ≤ m ∧ u0 = .slice a' n' c' ∧ u13 = .int .i64 k ∧ Hid (OwnSts wr B (.slice a' n' c') L') ∧ Hid (L'.map (·.1) = (trieK ps win q ss k).1) ∧ Hid (L'.length = n') ∧
      Hid (wr.heap[S + 1]? = some (.cells #[.int .i64 (trieK ps win q ss k).2] 3 (0, 0))) ∧ Hid (w.grownBy wr r0) ∧ Hid (∀ g, (Value.slice a' n' c').ownBlock = some g → r0 = some g ∨ S ≤ g) ∧ Hid (PtBox S (.slice ap np cp) win wr) ∧ Hid (S + 1 < wr.heap.size) ∧ Hid (∀ y ∈ L', ∀ g, y.2.ownBlock = some g → g ≠ S + 1)) (fun _ u13 _ => m - (intOf u13).toNat)
  case atStart => exact ⟨0, av, nl, cv, L, Nat.zero_le _, rfl, rfl, hI0, hss, hnl, hX0, hG0, hv0, hP0, hS0, hN0⟩
  case round =>
    obtain ⟨k, a', n', c', L', hk, rfl, rfl, hI, hL', hn', hX, hG, hv, hP, hSz, hNo⟩ := hrel
    have hbd := trieK_bd ps win q ss k
    obtain ⟨t, ht⟩ : ∃ t, trieK ps win q ss k = t := ⟨_, rfl⟩
    rw [ht] at hL' hX hbd
    obtain ⟨s1, ah⟩ := t
    dsimp only at hL' hX hbd
    have hlen1 : s1.length = n' := by rw [← hL'.out, List.length_map, hn'.out]
    have hn4 : n' ≤ 1000000 := by
      have := hbd.2
      rw [hlen1] at this
      have h1 : ss.length ≤ 10000 := by rw [← hss.out, List.length_map, hnl.out]; exact hL
      omega
    by_cases hlt : k < m
    · have hlti : (k : Int) < m := by omega
      obtain ⟨x, hx⟩ : ∃ x, q[k]? = some x := ⟨_, List.getElem?_eq_getElem (by rw [hm.out]; exact hlt)⟩
      have hxb := hq x (List.mem_of_getElem? hx)
      obtain ⟨i, rfl⟩ : ∃ i : Nat, x = i := ⟨x.toNat, by omega⟩
      obtain ⟨ar', cr', er, -, hcr⟩ := (hp.out wr hG.out).2
      obtain ⟨rfl, rfl⟩ : ar = ar' ∧ cr = cr' := by cases er; exact ⟨rfl, rfl⟩
      obtain ⟨br, orr, rfl, z0⟩ := ints_look hcr hx
      have hnext : trieK ps win q ss (k + 1) = if firstF (askQ ah (i : Int)) s1 < 0 then (s1 ++ [newSt ps win q k ah (i : Int)], (s1.length : Int)) else (s1, firstF (askQ ah (i : Int)) s1) := by
        rw [trieK, ht, hx]; rfl
      have hkn := kept_new wr (.cells #[.int .i64 (i : Int)] 3)
      have hI1 := hI.out.later hkn
      have hX1 := (hkn.block _ (Array.getElem?_eq_some_iff.1 hX.out).1).trans hX.out
      have hY1 : (wr.alloc (.cells #[.int .i64 (i : Int)] 3)).heap[wr.heap.size]? = some (.cells #[.int .i64 (i : Int)] 3 (0, 0)) := World.alloc_heap_new wr _
      have hix := Lib.hid (index46 (S + 1) wr.heap.size ah (i : Int) a' n' c' L' hn'.out hn4 (wr.alloc (.cells #[.int .i64 (i : Int)] 3)) hI1.sts hX1 hY1)
      rw [hL'.out] at hix
      obtain ⟨J, hJ⟩ : ∃ J, firstF (askQ ah (i : Int)) s1 = J := ⟨_, rfl⟩
      rw [hJ] at hix hnext
      have hG1 := grown_below hG.out hkn
      have hP1 := hP.out.later hkn
      replace hI1 := Lib.hid hI1
      replace hX1 := Lib.hid hX1
      replace hY1 := Lib.hid hY1
      replace hG1 := Lib.hid hG1
      replace hP1 := Lib.hid hP1
      have hs1 : Hid (wr.heap.size < (wr.alloc (.cells #[.int .i64 (i : Int)] 3)).heap.size) := Lib.hid (by simp)
      replace hx := Lib.hid hx
      replace hJ := Lib.hid hJ
      replace ht := Lib.hid ht
      have hJb : -1 ≤ J := by
        rcases firstF_cases (askQ ah (i : Int)) s1 with ⟨e, -⟩ | ⟨j, -, e, -⟩ <;> rw [hJ.out] at e <;> omega
      have hSz0 : Hid (S + 1 < wr.heap.size) := hSz
      clear hI hX hG hP hcr er hkn hSz
      by_cases hneg : J < 0
      · rw [if_pos hneg] at hnext
        replace hnext := Lib.hid hnext
        obtain ⟨⟨sp, spv⟩, hsp⟩ : ∃ y, Lp[i]? = some y := ⟨_, List.getElem?_eq_getElem (by rw [hnp.out]; omega)⟩
        have hil : i < np := by omega
        have hsA : stepA ps i = sp := by rw [← hps.out]; exact stepA_of (by simp [hsp])
        go_upto_region 8 with ((with_reducible refine hix.out.mono ?_); rintro e w6 ⟨rfl, hb6⟩; have hI6 := Lib.hid (hI1.out.later hb6); have hX6 := Lib.hid ((hb6.block _ (Array.getElem?_eq_some_iff.1 hX1.out).1).trans hX1.out); have hY6 := Lib.hid ((hb6.block _ (Array.getElem?_eq_some_iff.1 hY1.out).1).trans hY1.out); have hG6 := Lib.hid (grown_below hG1.out hb6); have hP6 := Lib.hid (hP1.out.later hb6); have hs6 := Lib.hid (Nat.lt_of_lt_of_le hs1.out hb6.size); clear hI1 hX1 hY1 hG1 hP1 hb6 hix hs1)
        obtain ⟨W0, hW0⟩ : ∃ W0, w6.drew = W0 := ⟨_, rfl⟩
        have hI0' : OwnSts W0 B (.slice a' n' c') L' := by rw [← hW0]; exact hI6.out.later (below_drew w6)
        have hX0' : W0.heap[S + 1]? = some (.cells #[.int .i64 ah] 3 (0, 0)) := by rw [← hW0]; exact hX6.out
        have hY0' : W0.heap[wr.heap.size]? = some (.cells #[.int .i64 (i : Int)] 3 (0, 0)) := by rw [← hW0]; exact hY6.out
        have hG0' : w.grownBy W0 r0 := by rw [← hW0]; exact grown_below hG6.out (below_drew w6)
        have hP0' : PtBox S (.slice ap np cp) win W0 := by rw [← hW0]; exact hP6.out.later (below_drew w6)
        have hs0' : wr.heap.size < W0.heap.size := by rw [← hW0]; exact hs6.out
        clear hI6 hX6 hY6 hG6 hP6 hs6
        obtain ⟨b0, hb0⟩ : ∃ b, (Value.slice a' n' c').ownBlock = b := ⟨_, rfl⟩
        have hGB : ∀ X, W0.grownBy X b0 → w.grownBy X r0 := fun X hX => grown_then hG0' hX (fun g hg => by
          have := hv.out g (by rw [hb0]; exact hg)
          rcases this with h | h
          · exact .inl h
          · exact .inr (by rw [hS.out]; exact h))
        obtain ⟨apb, rfl⟩ : ∃ z, ap = some z := by
          obtain ⟨b, o, e, -⟩ := (hp.out W0 hG0').1.step hnp.out hsp
          exact ⟨_, e⟩
        obtain ⟨bp, op, npx⟩ := apb
        obtain rfl : npx = none := by
          obtain ⟨b, o, e, -⟩ := (hp.out W0 hG0').1.step hnp.out hsp
          cases e; rfl
        have hF : Hid (∀ X, W0.grownBy X b0 → X.cell? ⟨wr.heap.size, 0, none⟩ = some (.int .i64 (i : Int)) ∧ X.cell? ⟨S, 0, none⟩ = some (.slice (some ⟨bp, op, none⟩) np cp) ∧ X.cell? ⟨S, 1, none⟩ = some (.int .i64 win) ∧ X.cell? ⟨S + 1, 0, none⟩ = some (.int .i64 ah) ∧ X.cell? ⟨bp, op + i * 6 + 4, none⟩ = some (.bool sp.strict)) := Lib.hid fun X hX => by
          have h1 := box_grown (by decide) hI0' (hb0 ▸ hX) hY0'
          have h2 : PtBox S _ win X := box_grown (by decide) hI0' (hb0 ▸ hX) hP0'
          have h3 := box_grown (by decide) hI0' (hb0 ▸ hX) hX0'
          obtain ⟨b, o, e, -, -, -, -, h4, -⟩ := (hp.out X (hGB X hX)).1.step hnp.out hsp
          cases e
          refine ⟨by simp [World.cell?, h1], h2.c0, h2.c1, by simp [World.cell?, h3], h4⟩
        have hF0 : W0.grownBy W0 b0 := World.grownBy.refl W0 _
        have hgu : Hid (∀ X, W0.grownBy X b0 → Calls Tryz.prog 47 #[ptV (.slice (some ⟨bp, op, none⟩) np cp) win, .slice (some ⟨br, orr, none⟩) m cr, .int .i64 k] X fun e Y => ∃ u, e = .returned u ∧ Y.ownsRow X.heap.size 3 1 u (guardsL ps win q k).length (ints (guardsL ps win q k)) ∧ Below X.heap.size X Y) := Lib.hid fun X hX => by
          have hh := hp.out X (hGB X hX)
          have := guards_V win hc _ q k (by rw [hm.out]; omega) X hh.1 hh.2
          rw [hps.out] at this
          exact this
        have hms : newSt ps win q k ah (i : Int) = ⟨i, k, sp.strict, guardsL ps win q k, ah, false⟩ := by unfold newSt; rw [Int.toNat_natCast, hsA]
        obtain ⟨gl, hgl⟩ : ∃ gl, guardsL ps win q k = gl := ⟨_, rfl⟩
        rw [hgl] at hgu hms
        rw [hms] at hnext
        obtain ⟨gn, hgn⟩ : ∃ gn, gl.length = gn := ⟨_, rfl⟩
        replace hgn := Lib.hid hgn
        have hBS : B ≤ W0.heap.size := by
          have := hSz0.out
          omega
        subst hW0
        refine along_reg8 w6 hn' hn4 hil (Lib.hid hb0) ⟨hI0', hBS⟩ hgn hF hgu _ _ _ _ _ _ _ _ _ _ _ _ _ _ _ _ _ _ _ _ _ _ _ _ _ _ _ _ _ _ _ _ _ _ _ ?_
        intro v41 a37 c37 x25 x26 x27 x28 x29 x30 x31 x32 x33 x34 x35 x36 x37 x38 x39 x40 x41 X hA hX
        have hXb := box_grown (by decide) hI0' (hb0 ▸ hX) hX0'
        have hPb : PtBox S (.slice (some ⟨bp, op, none⟩) np cp) win X := box_grown (by decide) hI0' (hb0 ▸ hX) hP0'
        have hGX := hGB X hX
        have hSX : S + 1 < X.heap.size := by have := (Array.getElem?_eq_some_iff.1 hXb).1; exact this
        have hA1 := hA.1
        have hlen4 : (L' ++ [(⟨(i : Int), k, sp.strict, gl, ah, false⟩, Value.slice a37 gn c37)] : List (St × Value)).length = n' + 1 := by rw [List.length_append, hn'.out]; rfl
        obtain ⟨a4, c4, e4⟩ := hA1.sts.lit hlen4
        subst e4
        have cX : X.cell? ⟨S + 1, 0, none⟩ = some (.int .i64 ah) := by simp [World.cell?, hXb]
        have fX : X.frozen? ⟨S + 1, 0, none⟩ = false := by simp [World.frozen?, hXb]
        have hNo2 : ∀ y ∈ L' ++ [((⟨(i : Int), k, sp.strict, gl, ah, false⟩ : St), Value.slice a37 gn c37)], ∀ g, y.2.ownBlock = some g → g ≠ S + 1 := fun y hy g hg => by
          rcases List.mem_append.1 hy with hy | hy
          · exact hNo.out y hy g hg
          · obtain rfl := List.mem_singleton.1 hy
            have h1 := hA.2.2 g hg
            have h2 := hSz0.out
            omega
        have hown2 : OwnSts (X.setCell ⟨S + 1, 0, none⟩ (.int .i64 n')) B (.slice a4 (n' + 1) c4) (L' ++ [((⟨(i : Int), k, sp.strict, gl, ah, false⟩ : St), Value.slice a37 gn c37)]) := hA1.box (by decide) hXb hNo2 _
        have hX2 : (X.setCell ⟨S + 1, 0, none⟩ (.int .i64 n')).heap[S + 1]? = some (.cells #[.int .i64 n'] 3 (0, 0)) := (show Boxed X (S + 1) 3 (.int .i64 ah) from hXb).set _
        have hG2 : w.grownBy (X.setCell ⟨S + 1, 0, none⟩ (.int .i64 n')) r0 := grown_then hGX (grownBy_setCell_any X (S + 1) 0 _) (fun g hg => by cases hg; exact .inr (by rw [hS.out]; omega))
        have hP2 : PtBox S (.slice (some ⟨bp, op, none⟩) np cp) win (X.setCell ⟨S + 1, 0, none⟩ (.int .i64 n')) := block_far hPb (by omega) _ _
        have hv2 : ∀ g, (Value.slice a4 (n' + 1) c4).ownBlock = some g → r0 = some g ∨ S ≤ g := fun g hg => by
          rcases hA.2.1 g hg with h | h
          · exact hv.out g h
          · have h2 := hSz0.out
            exact .inr (by omega)
        have hS2 : S + 1 < (X.setCell ⟨S + 1, 0, none⟩ (.int .i64 n')).heap.size := by simpa [World.setCell] using hSX
        have hm2 : (L' ++ [((⟨(i : Int), k, sp.strict, gl, ah, false⟩ : St), Value.slice a37 gn c37)]).map (·.1) = (trieK ps win q ss (k + 1)).1 := by rw [hnext, List.map_append, hL'.out]; rfl
        have hX3 : (X.setCell ⟨S + 1, 0, none⟩ (.int .i64 n')).heap[S + 1]? = some (.cells #[.int .i64 (trieK ps win q ss (k + 1)).2] 3 (0, 0)) := by rw [hnext, hlen1]; exact hX2
        replace hNo2 := Lib.hid hNo2
        replace hown2 := Lib.hid hown2
        replace hG2 := Lib.hid hG2
        replace hP2 := Lib.hid hP2
        replace hv2 := Lib.hid hv2
        replace hS2 := Lib.hid hS2
        replace hm2 := Lib.hid hm2
        replace hX3 := Lib.hid hX3
        replace hlen4 := Lib.hid hlen4
        clear hX2 hA hA1 hX hXb hPb hGX hSX hgu hF hp hI0' hGB hX0' hY0' hP0' hG0' hs0' hms hnext hb0 hlen1 hbd hBS
        go_wp2_with fail
        exact ⟨⟨k + 1, a4, n' + 1, c4, _, by omega, rfl, by go_num, hown2, hm2, hlen4, hX3, hG2, hv2, hP2, hS2, hNo2⟩, by simp [intOf]; omega⟩
      · rw [if_neg hneg] at hnext
        have hwr1 : Hid (trieK ps win q ss (k + 1) = (s1, J)) := Lib.hid hnext
        go_upto_region 9 with ((with_reducible refine hix.out.mono ?_); rintro e w6 ⟨rfl, hb6⟩; have hI6 := Lib.hid (hI1.out.later hb6); have hX6 := Lib.hid ((hb6.block _ (Array.getElem?_eq_some_iff.1 hX1.out).1).trans hX1.out); have hG6 := Lib.hid (grown_below hG1.out hb6); have hP6 := Lib.hid (hP1.out.later hb6); have hs6 := Lib.hid (Nat.lt_of_lt_of_le hs1.out hb6.size); clear hI1 hX1 hY1 hG1 hP1 hb6 hix hs1)
        clear hnext
        have hXb := hX6.out
        have cX : w6.cell? ⟨S + 1, 0, none⟩ = some (.int .i64 ah) := by simp [World.cell?, hXb]
        have fX : w6.frozen? ⟨S + 1, 0, none⟩ = false := by simp [World.frozen?, hXb]
        have hown2 := Lib.hid (hI6.out.box (by decide) hXb hNo.out (.int .i64 J))
        have hX3 : Hid ((w6.setCell ⟨S + 1, 0, none⟩ (.int .i64 J)).heap[S + 1]? = some (.cells #[.int .i64 (trieK ps win q ss (k + 1)).2] 3 (0, 0))) := Lib.hid (by rw [hwr1.out]; exact (show Boxed w6 (S + 1) 3 (.int .i64 ah) from hXb).set _)
        have hG2 : Hid (w.grownBy (w6.setCell ⟨S + 1, 0, none⟩ (.int .i64 J)) r0) := Lib.hid (grown_then hG6.out (grownBy_setCell_any w6 (S + 1) 0 _) (fun g hg => by cases hg; exact .inr (by rw [hS.out]; omega)))
        have hP2 : Hid (PtBox S (.slice ap np cp) win (w6.setCell ⟨S + 1, 0, none⟩ (.int .i64 J))) := Lib.hid (block_far hP6.out (by omega) _ _)
        have hS2 : Hid (S + 1 < (w6.setCell ⟨S + 1, 0, none⟩ (.int .i64 J)).heap.size) := Lib.hid (by have := (Array.getElem?_eq_some_iff.1 hXb).1; simpa [World.setCell] using this)
        have hm2 : Hid (L'.map (·.1) = (trieK ps win q ss (k + 1)).1) := Lib.hid (by rw [hwr1.out]; exact hL'.out)
        clear hXb hI6 hX6 hG6 hP6 hs6 hbd hlen1
        go_wp2_with fail
        exact ⟨⟨k + 1, a', n', c', L', by omega, rfl, by go_num, hown2, hm2, hn', hX3, hG2, hv, hP2, hS2, hNo⟩, by simp [intOf]; omega⟩
    · obtain rfl : k = m := by omega
      have hlti : ¬ (k : Int) < k := by omega
      obtain ⟨-, hj0, hj1⟩ : 1 ≤ k ∧ 0 ≤ ah ∧ ah < s1.length := by
        rcases hbd.1 with h | h
        · omega
        · exact h
      obtain ⟨j, rfl⟩ : ∃ j : Nat, ah = j := ⟨ah.toNat, by omega⟩
      have hjn : j < n' := by omega
      obtain ⟨⟨s, u⟩, hs⟩ : ∃ y, L'[j]? = some y := ⟨_, List.getElem?_eq_getElem (by rw [hn'.out]; exact hjn)⟩
      obtain ⟨g, rfl⟩ : ∃ g, a' = some ⟨g, 0, none⟩ := by
        rcases hI.out.1.2 with ⟨e, h0⟩ | ⟨g, cap, cur, e, -⟩
        · rw [hn'.out] at h0; omega
        · cases e; exact ⟨g, rfl⟩
      have cB : wr.cell? ⟨S + 1, 0, none⟩ = some (.int .i64 (j : Int)) := by have := hX.out; simp [World.cell?, this]
      have hrow := hI.out.1
      rw [hn'.out] at hrow
      have cG := hrow.cellAt (j * 6 + 5) (by omega)
      obtain ⟨x0, hx0⟩ : ∃ x, wr.cell? ⟨g, j * 6 + 5, none⟩ = some x := by
        rw [cG]
        exact ⟨_, List.getElem?_eq_getElem (by have := hrow.1; omega)⟩
      have fG := hrow.frozenAt (j * 6 + 5)
      have hfin := Lib.hid (hI.out.last hn'.out hs)
      have hmap : Hid ((L'.set j ({ s with last := true }, u)).map (·.1) = alongL ps win q ss) := Lib.hid (by
        rw [mark_map hs, hL'.out]
        unfold alongL
        rw [hm.out, ht]
        simp)
      have hG2 : Hid (w.grownBy (wr.setCell ⟨g, j * 6 + 5, none⟩ (.bool true)) r0) := Lib.hid (grown_then hG.out (grownBy_setCell_any wr g _ _) (fun g' hg' => by
        cases hg'
        have := hv.out g rfl
        rw [hS.out]; exact this))
      have hji : (j : Int) < n' := by omega
      clear cG hrow hbd hlen1 hI hX hs
      go_wp2_with fail
      go_ret
      exact ⟨_, rfl, _, hfin.out, hmap.out, hG2.out, by rw [hS.out]; exact hv.out⟩
end Go.Proofs.YtccmnngeibpcmaaGreat.Tree
/- nfa.New. -/
namespace Go.Proofs.YtccmnngeibpcmaaGreat.Tree
open Go.ChangeShapes Go.WideShapes Go.ChangeAt Go.RowKit
set_option linter.unusedVariables false
set_option linter.unusedSimpArgs false
set_option maxRecDepth 100000
attribute [local go_sem] Oper.semAt_some
theorem keeps_cells {B : Nat} {W W' : World} {row : Option Nat} (hg : W.grownBy W' row) (hrow : ∀ j, row = some j → ∃ cs t fz, W.heap[j]? = some (.cells cs t fz)) : KeepsFrom B W W' :=
  ⟨hg.size, fun k o hB hk ho => (hg.block k (Array.getElem?_eq_some_iff.1 hk).1 (fun e => by
    obtain ⟨cs, t, fz, h⟩ := hrow k e.symm
    rw [hk] at h; cases h; cases ho)).trans hk⟩
theorem own_cells {W : World} {base : Nat} {e : TypeId} {size n : Nat} {v : Value} {xs : List Value} (h : W.ownsRow base e size v n xs) : ∀ j, v.ownBlock = some j → ∃ cs t fz, W.heap[j]? = some (.cells cs t fz) := by
  intro j hj
  rcases h.2 with ⟨rfl, -⟩ | ⟨g, cap, cur, rfl, -, hg, -⟩
  · cases hj
  · cases hj; exact ⟨_, _, _, hg⟩
/-- What the loop over the rows has: box P with the states so far; all else is as it was in W8. -/
def NwI (W8 : World) (P B : Nat) (ps : List Sp) (win : Int) (R : List (List Int)) (k : Nat) (W : World) : Prop :=
  ∃ (a : Option Addr) (n c : Nat) (Ls : List (St × Value)), AuBox P (.slice a n c) (.slice none 0 0) 0 W ∧ OwnSts W B (.slice a n c) Ls ∧ Ls.map (·.1) = trieR ps win (R.take k) ∧ W8.grownBy W (some P)
theorem NwI.own (W8 : World) (P B : Nat) (ps : List Sp) (win : Int) (R : List (List Int)) (D : Nat) (hD : W8.heap.size ≤ D) : OwnFrom D (NwI W8 P B ps win R) := by
  rintro k X Y row ⟨a, n, c, Ls, h1, h2, h3, h4⟩ hg hrow
  have hno : ∀ (t : TypeId) r, row = some r → ∃ o : Obj, X.heap[r]? = some o ∧ ∀ cs fz, o ≠ .cells cs t fz := fun t r e => by
    obtain ⟨o, ho, hc⟩ := (hrow r e).2
    exact ⟨o, ho, no_cells hc t⟩
  refine ⟨a, n, c, Ls, ownFrom_block _ (fun _ : Unit => _) 30 D () X Y row h1 hg hrow, ⟨row_kept h2.1 hg (hno 41), fun x hx => row_kept (h2.2 x hx) hg (hno 3)⟩, h3, grown_then h4 hg (fun g e => .inr (by have := (hrow g e).1; omega))⟩
theorem rows_far {W8 W : World} {b P : Nat} {v : Value} {n : Nat} {vs : List Value} {R : List (List Int)} (hr : W8.ownsRow b 28 1 v n vs) (he : EachOwn W8 b vs R) (hg : W8.grownBy W (some P)) (hP : P < b) : W.ownsRow b 28 1 v n vs ∧ EachOwn W b vs R :=
  ⟨row_other hr hg (fun g hg' e => by have := own_ge hr g hg'; cases e; omega), fun i u r hu hr' => row_other (he i u r hu hr') hg (fun g hg' e => by have := own_ge (he i u r hu hr') g hg'; cases e; omega)⟩
theorem au_set {p : Nat} {v av : Value} {win : Int} {w : World} (h : AuBox p v av win w) (u : Value) : AuBox p u av win (w.setCell ⟨p, 0, none⟩ u) := by
  obtain ⟨hlt, hk⟩ := Array.getElem?_eq_some_iff.1 h
  show (w.heap.modify p _)[p]? = _
  rw [Array.getElem?_eq_getElem (by rw [Array.size_modify]; exact hlt), Array.getElem_modify_self, hk]
  rfl
theorem au_set1 {p : Nat} {v av : Value} {win : Int} {w : World} (h : AuBox p v av win w) (u : Value) : AuBox p v u win (w.setCell ⟨p, 1, none⟩ u) := by
  obtain ⟨hlt, hk⟩ := Array.getElem?_eq_some_iff.1 h
  show (w.heap.modify p _)[p]? = _
  rw [Array.getElem?_eq_getElem (by rw [Array.size_modify]; exact hlt), Array.getElem_modify_self, hk]
  rfl
theorem au_set2 {p : Nat} {v av : Value} {win : Int} {w : World} (h : AuBox p v av win w) (u : Int) : AuBox p v av u (w.setCell ⟨p, 2, none⟩ (.int .i64 u)) := by
  obtain ⟨hlt, hk⟩ := Array.getElem?_eq_some_iff.1 h
  show (w.heap.modify p _)[p]? = _
  rw [Array.getElem?_eq_getElem (by rw [Array.size_modify]; exact hlt), Array.getElem_modify_self, hk]
  rfl
theorem au_f {p : Nat} {v av : Value} {win : Int} {w : World} (h : AuBox p v av win w) (j : Nat) : w.frozen? ⟨p, j, none⟩ = false := by unfold AuBox at h; simp [World.frozen?, h]
theorem results_two {P : Program} {fn : Func} {p u : Tmp} {ty : TypeId} (h : fn.results = #[.cell p ty, .tmp u]) (tmps : Array Value) (w : World) (g : Nat) (t : TypeId) (cs : Array Value) (fr : Nat × Nat) (d : TypeDesc)
    (hp : tmps.getD p undef = .pointer (some ⟨g, 0, none⟩)) (hg : w.heap[g]? = some (.cells cs t fr))
    (hu : P.underlying ty = some d) (hd : (match d with | .struct _ | .array _ _ => true | _ => false) = true) (hi : (P.info? ty).map (·.size) = some cs.size) :
    (results fn tmps).run P w = .ok (.tuple #[.agg cs, tmps.getD u undef]) w := by
  rw [results_cell_tmp h, hp]
  simp [asAddr, run_loadVar_row w g t ty cs fr d hg hu hd hi, Result.andThen]
/-- A store into another block than these. -/
theorem sts_far {W : World} {B p o : Nat} {v : Value} {L : List (St × Value)} (h : OwnSts W B v L) (hp : p < B) (u : Value) : OwnSts (W.setCell ⟨p, o, none⟩ u) B v L :=
  ⟨row_other h.1 (grownBy_setCell_any W p o u) (fun g hg e => by have := own_ge h.1 g hg; have := Option.some.inj e; omega), fun y hy => row_other (h.2 y hy) (grownBy_setCell_any W p o u) (fun g hg e => by have := own_ge (h.2 y hy) g hg; have := Option.some.inj e; omega)⟩
theorem row_far {W : World} {B p o e s n : Nat} {v : Value} {xs : List Value} (h : W.ownsRow B e s v n xs) (hp : p < B) (u : Value) : (W.setCell ⟨p, o, none⟩ u).ownsRow B e s v n xs :=
  row_other h (grownBy_setCell_any W p o u) (fun g hg e => by have := own_ge h g hg; have := Option.some.inj e; omega)
/-- How New is left for its last lines: nothing. -/
def NwJ (w : World) (m : Bool) (a' : Act) (W : World) : Prop :=
  m = false ∧ W.heap[w.heap.size + 1]? = some (.cells #[.slice none 0 0, .slice none 0 0, .int .i64 0] 30 (0, 0)) ∧ Below w.heap.size w W ∧ ∃ (u0 u3 u4 u5 u6 u7 u8 u9 u10 u11 u12 u13 u14 u15 u16 u17 u18 u19 u20 u21 u22 u23 u24 u25 u26 : Value),
    a' = { tmps := #[u0, ptr w.heap.size, ptr (w.heap.size + 1), u3, u4, u5, u6, u7, u8, u9, u10, u11, u12, u13, u14, u15, u16, u17, u18, u19, u20, u21, u22, u23, u24, u25, u26], defers := [] }
set_option maxHeartbeats 4000000 in
theorem new_V {v : Value} {L : List (Sp × Value)} (win : Int) (hc : UnOk L) (w : World) (h : SpsL w v L) :
    Calls Tryz.prog 7 #[ptV v win] w fun e w' => ∃ sv av wn Ls er, e = .returned (.tuple #[auV sv av wn, .int .i64 er]) ∧ StsL w' sv Ls ∧ (∃ A, NmsAt w' av A ∧
      (mayB (L.map (·.1)) win = true → Ls.map (·.1) = autoS (L.map (·.1)) win ∧ A = afterL (L.map (·.1)) win ∧ wn = win ∧ er = 0) ∧ (mayB (L.map (·.1)) win = false → Ls = [] ∧ A = [] ∧ wn = 0 ∧ er = 110)) ∧ Below w.heap.size w w' := by
  have hM := Lib.hid (fun W (hW : Below w.heap.size w W) => may_V win hc.1 W (h.later hW))
  have hRw := Lib.hid (fun W (hW : Below w.heap.size w W) => rows_V win hc W (h.later hW))
  have hAf := Lib.hid (fun W (hW : Below w.heap.size w W) => after_V win hc W (h.later hW))
  obtain ⟨a, c, rfl⟩ := h.lit rfl
  obtain ⟨n, hn⟩ : ∃ n, L.length = n := ⟨_, rfl⟩
  obtain ⟨ps, hps⟩ : ∃ ps, L.map (·.1) = ps := ⟨_, rfl⟩
  obtain ⟨m, hmm⟩ : ∃ m, mayB ps win = m := ⟨_, rfl⟩
  rw [hn, hps, hmm] at hM hRw
  rw [hn, hps] at hAf
  rw [hn] at h ⊢
  rw [hps, hmm]
  refine (callsIn_wide (n := 9)).1 ?_
  refine callsIn_of_wp_marks Tryz.func7 rfl trivial ?_ rfl
  rw [wpIn_wide]
  simp only [Tryz.ntmps7, List.size_toArray, List.length_cons, List.length_nil, Nat.reduceAdd, Nat.reduceSub, Array.replicate_succ, Array.replicate_zero, List.push_toArray, List.append_toArray, List.nil_append, List.cons_append]
  have hb1 := kept_new w (.cells #[.slice a n c, .int .i64 win] 24)
  have hb2 := kept_new (w.alloc (.cells #[.slice a n c, .int .i64 win] 24)) (.cells #[.slice none 0 0, .slice none 0 0, .int .i64 0] 30)
  have hb3 := kept_new ((w.alloc (.cells #[.slice a n c, .int .i64 win] 24)).alloc (.cells #[.slice none 0 0, .slice none 0 0, .int .i64 0] 30)) (.cells #[.slice none 0 0, .slice none 0 0, .int .i64 0] 30)
  have hpt := ((PtBox.new w (.slice a n c) win).later hb2).later hb3
  have hT := (AuBox.new (w.alloc (.cells #[.slice a n c, .int .i64 win] 24)) (.slice none 0 0) (.slice none 0 0) 0).later hb3
  rw [World.size_alloc] at hT
  have hA := AuBox.new ((w.alloc (.cells #[.slice a n c, .int .i64 win] 24)).alloc (.cells #[.slice none 0 0, .slice none 0 0, .int .i64 0] 30)) (.slice none 0 0) (.slice none 0 0) 0
  rw [World.size_alloc, World.size_alloc] at hA
  have hbb := kept_trans (kept_trans hb1 hb2) hb3
  have hs3 : (((w.alloc (.cells #[.slice a n c, .int .i64 win] 24)).alloc (.cells #[.slice none 0 0, .slice none 0 0, .int .i64 0] 30)).alloc (.cells #[.slice none 0 0, .slice none 0 0, .int .i64 0] 30)).heap.size = w.heap.size + 3 := by simp
  go_wp2
  clear hb1 hb2 hb3
  refine wp_scope_jumps 0 (fun a' W => NwJ w m a' W) (fun _ _ => 0) rfl ?_ ?_
  · go_upto_region 2 with fail
    generalize ((w.alloc (.cells #[.slice a n c, .int .i64 win] 24)).alloc (.cells #[.slice none 0 0, .slice none 0 0, .int .i64 0] 30)).alloc (.cells #[.slice none 0 0, .slice none 0 0, .int .i64 0] 30) = W3 at *
    have hm := hM.out _ hbb
    have c0 := hpt.c0
    have c1 := hpt.c1
    cases m with
    | false =>
      replace hbb := Lib.hid hbb
      replace hT := Lib.hid hT
      clear hpt hA hRw hAf
      go_wp2_with ((with_reducible refine hm.mono ?_); rintro e w5 ⟨rfl, hb5⟩)
      refine wp_goto ?_
      exact ⟨rfl, rfl, hT.out.later hb5, kept_trans hbb.out hb5, _, _, _, _, _, _, _, _, _, _, _, _, _, _, _, _, _, _, _, _, _, _, _, _, _, rfl⟩
    | true =>
      replace hT := Lib.hid hT
      replace hA := Lib.hid hA
      replace hpt := Lib.hid hpt
      replace hbb := Lib.hid hbb
      go_wp2_with (first
        | ((with_reducible refine hm.mono ?_); rintro e w5 ⟨rfl, hb5⟩; have hB5 := Lib.hid (kept_trans hbb.out hb5); have hpt5 := Lib.hid (hpt.out.later hb5); have d0 := hpt5.out.c0; have d1 := hpt5.out.c1; have Q1 := Lib.hid (hRw.out _ hB5.out); replace hb5 := Lib.hid hb5)
        | ((with_reducible refine Q1.out.mono ?_); rintro e w6 ⟨u, rfl, hro, -, hb6⟩; replace hro := Lib.hid (hro (by first | rfl | trivial)); obtain ⟨ar, nr, cr, hre⟩ := hro.out.lit; subst hre; have hB6 := Lib.hid (kept_trans hB5.out hb6); replace hb6 := Lib.hid hb6)
        | ((with_reducible refine (values2_any _ _ _ _).mono ?_); rintro e w8 ⟨rfl, rfl⟩))
      obtain ⟨R, hR⟩ : ∃ R, rowsP ps = R := ⟨_, rfl⟩
      rw [hR] at hro
      obtain ⟨vs, hrv, hre⟩ := hro.out
      have hk8 := kept_new w6 (.cells #[.slice ar nr cr] 34)
      have hb58 := kept_trans hb5.out (kept_trans hb6.out hk8)
      have hA8 := hA.out.later hb58
      have hT8 := hT.out.later hb58
      have hp8 := hpt.out.later hb58
      have hB8 := kept_trans hB6.out hk8
      have hr8 := row_later hrv hk8
      have he8 := hre.later hk8
      have hV8 := heap_alloc_new w6 (.cells #[.slice ar nr cr] 34)
      have hs5 : w.heap.size + 3 ≤ w5.heap.size := by have := hb5.out.size; omega
      have hs6 := hb6.out.size
      have hs8 : w6.heap.size < (w6.alloc (.cells #[.slice ar nr cr] 34)).heap.size := by simp
      have hG := may_good hmm
      have hfit := rows_fit hmm
      rw [hR] at hfit
      have hnr : R.length = nr := by obtain ⟨a', c', e', -⟩ := cells_of_row hr8; cases e'; rfl
      have hr81 : R.length ≤ 81 := by
        have := (hG.rowsK_bd (posS ps 0).length).1
        rw [rowsK_all ps (Nat.le_refl _), hR] at this
        exact this
      clear hb5 hb6 hk8 hb58 hA hT hpt hbb hro hrv hre hB5 hpt5 d0 d1 Q1 hm c0 c1 hM hRw hB6
      refine (wpIn_wide (n := 9)).1 ?_
      obtain ⟨V, hV⟩ : ∃ V, w6.heap.size = V := ⟨_, rfl⟩
      obtain ⟨b5, hb5⟩ : ∃ b, w5.heap.size = b := ⟨_, rfl⟩
      rw [hV] at hV8 hs6 hs8 ⊢
      rw [hb5] at hs5 hs6 hr8 he8
      generalize w6.alloc (.cells #[.slice ar nr cr] 34) = W8 at *
      have hvl : vs.length = nr := by rw [← hnr]; exact own_len hr8
      have hsv : Hid (∀ X, Below w.heap.size w X → SpsL X (.slice a n c) L) := Lib.hid fun X hX => h.later hX
      have hrr : Hid (∀ W, W8.grownBy W (some (w.heap.size + 1 + 1)) → W.ownsRow b5 28 1 (.slice ar nr cr) R.length vs ∧ EachOwn W b5 vs R) := Lib.hid fun W hW => rows_far hr8 he8 hW (by omega)
      have hbw : Hid (∀ W, W8.grownBy W (some (w.heap.size + 1 + 1)) → Below w.heap.size w W) := Lib.hid fun W hW => hB8.grown hW (by omega) (fun k e => by have := Option.some.inj e; omega)
      clear h
      refine wpIn_rangeFunc_rowT rfl (by omega) (gf := 40) (lb := #[ptr V]) rfl trivial (enters_of Tryz.func40 (by kernel_rfl) rfl)
        (vr_tells 8 V 34 (by omega) ar nr cr vs R (by omega) W8) (Below.refl _ _) (fun k hk => vrRow_size hk)
        (NwI W8 (w.heap.size + 1 + 1) W8.heap.size ps win R) (fun _ _ => False) (NwI.own W8 _ _ ps win R _ (Nat.le_refl _)) (fun _ _ _ _ hs _ _ => hs)
        (fun k W hI => by
          obtain ⟨a1, n1, c1, Ls, h1, h2, h3, h4⟩ := hI
          have hv := (h4.block V hs8 (fun e => by have := Option.some.inj e; omega)).trans hV8
          obtain ⟨q1, q2⟩ := hrr.out W h4
          obtain ⟨a', c', e', hc'⟩ := cells_of_row q1
          exact ⟨hv, hnr, ⟨a', c', e', hc'⟩, by rw [hvl, hnr], fun i u r hu hr => nms_own (q2 i u r hu hr)⟩) (fun _ _ h => trivial)
        ⟨none, 0, 0, [], hA8, OwnSts.nil _ _, rfl, World.grownBy.refl _ _⟩
        (fun k a' W => ∃ x : Value, vs[k]? = some x ∧
          a' = { tmps := #[ptV (.slice a n c) win, ptr w.heap.size, ptr (w.heap.size + 1), .int .i64 0, ptr (w.heap.size + 1 + 1), x, ptV (.slice a n c) win, .bool true, .bool false, ptV (.slice a n c) win, .slice ar nr cr, .func (.func 40) #[] #[ptr V], x, undef, undef, undef, undef, undef, undef, undef, undef, undef, undef, undef, undef, undef, undef], defers := [] })
        (fun k a' => ownFrom_pure _ _)
        ?assign ?body ?done ?stop
      case assign =>
        intro l k W K hk hI hK
        rw [vrRow_len] at hk
        obtain ⟨x, hx⟩ : ∃ x, vs[k]? = some x := ⟨_, List.getElem?_eq_getElem hk⟩
        rw [vrRow_at hx]
        gi_wp2
        exact hK _ _ (KeepsFrom.refl _ _) (KeepsT.refl _ _) hI ⟨x, hx, rfl⟩
      case body =>
        rintro l k a' W hk hI ⟨x, hx, rfl⟩
        rw [vrRow_len, hvl] at hk
        obtain ⟨q, hq⟩ : ∃ q, R[k]? = some q := ⟨_, List.getElem?_eq_getElem (by omega)⟩
        obtain ⟨a1, n1, c1, Ls, h1, h2, h3, h4⟩ := hI
        have hBW := hbw.out W h4
        have hpW : PtBox w.heap.size (.slice a n c) win W := (h4.block _ (Nat.lt_of_lt_of_le hp8.lt (Nat.le_refl _)) (fun e => by have := Option.some.inj e; omega)).trans hp8
        have c0 := h1.c0
        have f0 : W.frozen? ⟨w.heap.size + 1 + 1, 0, none⟩ = false := by have := h1; unfold AuBox at this; simp [World.frozen?, this]
        have d0 := hpW.c0
        have d1 := hpW.c1
        obtain ⟨hfq1, hfq2, hfq3⟩ := hfit.1 q (List.mem_of_getElem? hq)
        have hrq := (hrr.out W h4).2 k x q hx hq
        have hBx : ∀ X, W.grownBy X (Value.slice a1 n1 c1).ownBlock → SpsL X (.slice a n c) L ∧ NmsC X x q := fun X hX => by
          refine ⟨hsv.out X (hBW.grown hX (by have := h4.size; omega) (fun g hg => by have := own_ge h2.1 g hg; omega)), nmsC_own (row_other hrq hX (fun g hg e => ?_))⟩
          have e1 := own_ge h2.1 g e
          have e2 := (he8 k x q hx hq).lt g hg
          omega
        have hal := Lib.hid (along_V (B := W8.heap.size) win hc (q := q) (fun y hy => by
          obtain ⟨j, hj⟩ := List.getElem?_of_mem hy
          obtain ⟨i, e, hi, -⟩ := row_pos hG (by rw [hR]; exact List.mem_of_getElem? hq) hj
          rw [← hps, List.length_map] at hi
          omega) hfq2 (by omega) (by
          have hl1 := trieR_len ps win (R.take k) (fun q' hq' => (hfit.1 q' (List.mem_of_mem_take hq')).2.2)
          have hl2 := congrArg List.length h3
          rw [List.length_map] at hl2
          rw [List.length_take] at hl1
          omega) W h4.size h2 hBx)
        rw [hps, h3] at hal
        have hnext : trieR ps win (R.take (k + 1)) = alongL ps win q (trieR ps win (R.take k)) := by
          rw [List.take_add_one, hq]; exact trieR_snoc ps win _ q
        have hPB : w.heap.size + 1 + 1 < W8.heap.size := by omega
        have hPlt : w.heap.size + 1 + 1 < W.heap.size := Nat.lt_of_lt_of_le hPB h4.size
        have hstep : Hid (∀ (w4 : World) (a4 : Option Addr) (n4 c4 : Nat) (L4 : List (St × Value)), OwnSts w4 W8.heap.size (.slice a4 n4 c4) L4 → L4.map (·.1) = alongL ps win q (trieR ps win (R.take k)) → W.grownBy w4 (Value.slice a1 n1 c1).ownBlock →
            w4.cell? ⟨w.heap.size + 1 + 1, 0, none⟩ = some (.slice a1 n1 c1) ∧ w4.frozen? ⟨w.heap.size + 1 + 1, 0, none⟩ = false ∧ KeepsFrom W8.heap.size W (w4.setCell ⟨w.heap.size + 1 + 1, 0, none⟩ (.slice a4 n4 c4)) ∧ KeepsT 34 W (w4.setCell ⟨w.heap.size + 1 + 1, 0, none⟩ (.slice a4 n4 c4)) ∧
            NwI W8 (w.heap.size + 1 + 1) W8.heap.size ps win R (k + 1) (w4.setCell ⟨w.heap.size + 1 + 1, 0, none⟩ (.slice a4 n4 c4))) := Lib.hid fun w4 a4 n4 c4 L4 g1 g2 g3 => by
          have hne : some (w.heap.size + 1 + 1) ≠ (Value.slice a1 n1 c1).ownBlock := fun e => by have := own_ge h2.1 _ e.symm; omega
          have hAu4 : AuBox (w.heap.size + 1 + 1) (.slice a1 n1 c1) (.slice none 0 0) 0 w4 := (g3.block _ hPlt hne).trans h1
          have hAu5 : w4.heap[w.heap.size + 1 + 1]? = some (.cells #[.slice a1 n1 c1, .slice none 0 0, .int .i64 0] 30 (0, 0)) := hAu4
          have hset := grownBy_setCell_any w4 (w.heap.size + 1 + 1) 0 (.slice a4 n4 c4)
          refine ⟨hAu4.c0, by simp [World.frozen?, hAu5], ?_, ?_, a4, n4, c4, L4, au_set hAu4 _, g1.box (by decide) hAu5 (fun y hy g hg e => ?_) _, by rw [g2, hnext], ?_⟩
          · exact (keeps_cells g3 (own_cells h2.1)).trans (KeepsFrom.of_grownBy hset (fun j e => by have := Option.some.inj e; omega))
          · exact (KeepsT.grown g3 (own_is h2.1 34 (by decide))).trans (KeepsT.setCell _ hAu5 (by decide))
          · have := own_ge (g1.2 y hy) g hg
            omega
          · exact grown_then (grown_then h4 g3 (fun g hg => .inr (own_ge h2.1 g hg))) hset (fun g hg => .inl hg)
        clear hBx h1 h2 h3 h4 hpW hrq hq hBW hk hx hp8 hA8 hT8 hr8 he8 hV8 hB8 hfit
        gi_wp2_with fail
        refine ⟨trivial, ((callsIn_wide (n := 6)).2 hal.out).mono ?_⟩
        rintro e w4 ⟨v4, L4, rfl, g1, g2, g3, -⟩
        obtain ⟨a4, c4, e4⟩ := g1.sts.lit rfl
        subst e4
        obtain ⟨x0, f0', hk1, hk2, hk3⟩ := hstep.out w4 _ _ _ L4 g1 g2 g3
        replace hk1 := Lib.hid hk1
        replace hk2 := Lib.hid hk2
        replace hk3 := Lib.hid hk3
        clear hstep hal g1 g2 g3 c0 f0 d0 d1
        generalize L4.length = n4 at *
        gi_wp2_with fail
        exact ⟨hk1.out, hk2.out, hk3.out⟩
      case done =>
        rintro D W hD ⟨a1, n1, c1, Ls, h1, h2, h3, h4⟩ hK
        rw [vrRow_len, hvl, ← hnr, List.take_length, ← hR] at h3
        have hBW := hbw.out W h4
        have hpW : PtBox w.heap.size (.slice a n c) win W := (h4.block _ hp8.lt (fun e => by have := Option.some.inj e; omega)).trans hp8
        have hTW : AuBox (w.heap.size + 1) (.slice none 0 0) (.slice none 0 0) 0 W := (h4.block _ hT8.lt (fun e => by have := Option.some.inj e; omega)).trans hT8
        have d0 := hpW.c0
        have d1 := hpW.c1
        have hq := Lib.hid (hAf.out W hBW)
        have hlt : w.heap.size + 3 ≤ W.heap.size := by have := h4.size; omega
        clear hAf hrr hbw hsv hp8 hT8 hA8 hr8 he8 hV8 hB8
        replace h1 := Lib.hid h1
        replace h2 := Lib.hid h2
        replace hpW := Lib.hid hpW
        replace hTW := Lib.hid hTW
        replace hBW := Lib.hid hBW
        replace h3 := Lib.hid h3
        go_upto_region 7 with ((with_reducible refine hq.out.mono ?_); rintro e w4 ⟨u, rfl, ho, hb4⟩; have f1 := au_f (h1.out.later hb4) 1; have x1 := (h1.out.later hb4).c1; obtain ⟨ua, uc, eu, -⟩ := nms_own ho; subst eu)
        obtain ⟨A, hA⟩ : ∃ A, afterL ps win = A := ⟨_, rfl⟩
        rw [hA] at ho ⊢
        obtain ⟨na, hna⟩ : ∃ na, A.length = na := ⟨_, rfl⟩
        rw [hna] at ho ⊢
        have hset := grownBy_setCell_any w4 (w.heap.size + 1 + 1) 1 (.slice ua na uc)
        have hA5 := au_set1 (h1.out.later hb4) (.slice ua na uc)
        have hT5 : AuBox (w.heap.size + 1) (.slice none 0 0) (.slice none 0 0) 0 (w4.setCell ⟨w.heap.size + 1 + 1, 1, none⟩ (.slice ua na uc)) := block_far (hTW.out.later hb4) (by omega) _ _
        have hp5 : PtBox w.heap.size (.slice a n c) win (w4.setCell ⟨w.heap.size + 1 + 1, 1, none⟩ (.slice ua na uc)) := block_far (hpW.out.later hb4) (by omega) _ _
        have hO5 : OwnSts (w4.setCell ⟨w.heap.size + 1 + 1, 1, none⟩ (.slice ua na uc)) W8.heap.size (.slice a1 n1 c1) Ls := ⟨row_other (row_later h2.out.1 hb4) hset (fun g hg e => by have := own_ge h2.out.1 g hg; have := Option.some.inj e; omega), fun y hy => row_other (row_later (h2.out.2 y hy) hb4) hset (fun g hg e => by have := own_ge (h2.out.2 y hy) g hg; have := Option.some.inj e; omega)⟩
        have ho5 : (w4.setCell ⟨w.heap.size + 1 + 1, 1, none⟩ (.slice ua na uc)).ownsRow W.heap.size 3 1 (.slice ua na uc) na (ints A) := row_other ho hset (fun g hg e => by have := own_ge ho g hg; have := Option.some.inj e; omega)
        have hK5 : (w4.setCell ⟨w.heap.size + 1 + 1, 1, none⟩ (.slice ua na uc)).heap[D]? = some (.deferred (some [])) := block_far ((hb4.block _ (Array.getElem?_eq_some_iff.1 hK).1).trans hK) (by omega) _ _
        have hB5 : Below w.heap.size w (w4.setCell ⟨w.heap.size + 1 + 1, 1, none⟩ (.slice ua na uc)) := (kept_trans hBW.out hb4).setCell (p := ⟨w.heap.size + 1 + 1, 1, none⟩) (by simp; omega) _
        clear hset hb4 h1 h2 ho hTW hpW hBW hK f1 x1 d0 d1 hq
        generalize w4.setCell ⟨w.heap.size + 1 + 1, 1, none⟩ (.slice ua na uc) = W5 at *
        have e1 := hp5.c1
        have f2 := au_f hA5 2
        have x2 := hA5.c2
        have hset := grownBy_setCell_any W5 (w.heap.size + 1 + 1) 2 (.int .i64 win)
        have hA6 := au_set2 hA5 win
        have hT6 : AuBox (w.heap.size + 1) (.slice none 0 0) (.slice none 0 0) 0 (W5.setCell ⟨w.heap.size + 1 + 1, 2, none⟩ (.int .i64 win)) := block_far hT5 (by omega) _ _
        have hO6 : OwnSts (W5.setCell ⟨w.heap.size + 1 + 1, 2, none⟩ (.int .i64 win)) W8.heap.size (.slice a1 n1 c1) Ls := ⟨row_other hO5.1 hset (fun g hg e => by have := own_ge hO5.1 g hg; have := Option.some.inj e; omega), fun y hy => row_other (hO5.2 y hy) hset (fun g hg e => by have := own_ge (hO5.2 y hy) g hg; have := Option.some.inj e; omega)⟩
        have ho6 : (W5.setCell ⟨w.heap.size + 1 + 1, 2, none⟩ (.int .i64 win)).ownsRow W.heap.size 3 1 (.slice ua na uc) na (ints A) := row_other ho5 hset (fun g hg e => by have := own_ge ho5 g hg; have := Option.some.inj e; omega)
        have hK6 : (W5.setCell ⟨w.heap.size + 1 + 1, 2, none⟩ (.int .i64 win)).heap[D]? = some (.deferred (some [])) := block_far hK5 (by omega) _ _
        have hB6 : Below w.heap.size w (W5.setCell ⟨w.heap.size + 1 + 1, 2, none⟩ (.int .i64 win)) := hB5.setCell (p := ⟨w.heap.size + 1 + 1, 2, none⟩) (by simp; omega) _
        clear hset hT5 hp5 hO5 ho5 hK5 hB5 hA5
        replace hA6 := Lib.hid hA6
        replace hT6 := Lib.hid hT6
        replace hO6 := Lib.hid hO6
        replace ho6 := Lib.hid ho6
        replace hK6 := Lib.hid hK6
        replace hB6 := Lib.hid hB6
        go_upto_region 8 with fail
        clear e1 f2 x2
        generalize W5.setCell ⟨w.heap.size + 1 + 1, 2, none⟩ (.int .i64 win) = W6 at *
        have y0 := hA6.out.c0
        have y1 := hA6.out.c1
        have y2 := hA6.out.c2
        have t0 := hT6.out.c0
        have t1 := hT6.out.c1
        have t2 := hT6.out.c2
        have g0 := au_f hT6.out 0
        have g1 := au_f hT6.out 1
        have g2 := au_f hT6.out 2
        go_wp2
        rw [jump_ret]
        have hpB : w.heap.size + 1 < W8.heap.size := by omega
        have hpW' : w.heap.size + 1 < W.heap.size := by omega
        have hA7 := au_set2 (au_set1 (au_set hT6.out (.slice a1 n1 c1)) (.slice ua na uc)) win
        have hO7 := sts_far (o := 2) (sts_far (o := 1) (sts_far (o := 0) hO6.out hpB (.slice a1 n1 c1)) hpB (.slice ua na uc)) hpB (.int .i64 win)
        have ho7 := row_far (o := 2) (row_far (o := 1) (row_far (o := 0) ho6.out hpW' (.slice a1 n1 c1)) hpW' (.slice ua na uc)) hpW' (.int .i64 win)
        have hB7 := ((hB6.out.setCell (p := ⟨w.heap.size + 1, 0, none⟩) (by simp) (.slice a1 n1 c1)).setCell (p := ⟨w.heap.size + 1, 1, none⟩) (by simp) (.slice ua na uc)).setCell (p := ⟨w.heap.size + 1, 2, none⟩) (by simp) (.int .i64 win)
        have hK7 := block_far (block_far (block_far hK6.out (show D ≠ w.heap.size + 1 by omega) 0 (.slice a1 n1 c1)) (show D ≠ w.heap.size + 1 by omega) 1 (.slice ua na uc)) (show D ≠ w.heap.size + 1 by omega) 2 (.int .i64 win)
        clear y0 y1 y2 t0 t1 t2 g0 g1 g2 hA6 hT6 hO6 ho6 hB6 hK6
        generalize ((W6.setCell ⟨w.heap.size + 1, 0, none⟩ (.slice a1 n1 c1)).setCell ⟨w.heap.size + 1, 1, none⟩ (.slice ua na uc)).setCell ⟨w.heap.size + 1, 2, none⟩ (.int .i64 win) = W7 at *
        have hA8 : (W7.putObj D (.deferred none)).heap[w.heap.size + 1]? = some (.cells #[.slice a1 n1 c1, .slice ua na uc, .int .i64 win] 30 (0, 0)) := (World.putObj_heap_other (by omega)).trans hA7
        refine ⟨by simp, .inl ⟨_, _, rfl, run_takeDeferred hK7, ?_⟩⟩
        refine ⟨_, results_two (ty := 30) rfl _ _ _ _ _ (0, 0) _ rfl hA8 Tryz.underlying30 rfl (by kernel_rfl), _, _, _, Ls, _, rfl, ?_, ⟨A, ?_, (fun _ => ⟨by rw [h3.out]; unfold autoS; rw [hR], hA.symm, rfl, rfl⟩), (fun h => by cases h)⟩, hB7.trans (belowK_b (w := w) (Nat.le_refl _) W7 D _ (.deferred none) (by omega) hK7 rfl rfl)⟩
        · exact OwnSts.sts (B := W8.heap.size) ⟨ownsRow_putObj hO7.1 _ hK7 rfl, fun y hy => ownsRow_putObj (hO7.2 y hy) _ hK7 rfl⟩
        · exact nms_own (ownsRow_putObj ho7 _ hK7 rfl)
      case stop => exact fun _ _ _ _ h => h.elim
  · rintro ⟨t, d⟩ w2 ⟨hb, hT, hB, u0, u3, u4, u5, u6, u7, u8, u9, u10, u11, u12, u13, u14, u15, u16, u17, u18, u19, u20, u21, u22, u23, u24, u25, u26, he⟩
    cases he
    subst hb
    have hAu : AuBox (w.heap.size + 1) (.slice none 0 0) (.slice none 0 0) 0 w2 := hT
    have t0 := hAu.c0
    have t1 := hAu.c1
    have t2 := hAu.c2
    have g0 := au_f hAu 0
    have g1 := au_f hAu 1
    have g2 := au_f hAu 2
    have hA7 := au_set2 (au_set1 (au_set hAu (.slice none 0 0)) (.slice none 0 0)) 0
    have hB7 := ((hB.setCell (p := ⟨w.heap.size + 1, 0, none⟩) (by simp) (.slice none 0 0)).setCell (p := ⟨w.heap.size + 1, 1, none⟩) (by simp) (.slice none 0 0)).setCell (p := ⟨w.heap.size + 1, 2, none⟩) (by simp) (.int .i64 0)
    clear hT hpt hA hbb hM hRw hAf
    replace hA7 := Lib.hid hA7
    replace hB7 := Lib.hid hB7
    clear hB hAu
    go_wp2
    rw [jump_ret]
    exact ⟨_, results_two (ty := 30) rfl _ _ _ _ _ (0, 0) _ rfl hA7.out Tryz.underlying30 rfl (by kernel_rfl), _, _, _, [], _, rfl, ⟨⟨none, 0, rfl, .inl rfl⟩, fun x hx => by cases hx⟩, ⟨[], nms_nil _, (fun h => by cases h), (fun _ => ⟨rfl, rfl, rfl, rfl⟩)⟩, hB7.out⟩
end Go.Proofs.YtccmnngeibpcmaaGreat.Tree
/- The reference's Same: the drawn region. -/
namespace Go.Proofs.YtccmnngeibpcmaaGreat.Tree
open Go.ChangeShapes Go.WideShapes Go.ChangeAt Go.RowKit
set_option linter.unusedVariables false
set_option linter.unusedSimpArgs false
set_option maxRecDepth 100000
attribute [local go_sem] Oper.semAt_some
/-- A new box of a state. -/
def BxZ (N p : Nat) (X : World) : Prop := N ≤ p ∧ X.heap[p]? = some (.cells #[.int .i64 0, .int .i64 0, .bool false, .slice none 0 0, .int .i64 0, .bool false] 41 (0, 0))
theorem BxZ.later {N p : Nat} {X Y : World} (h : BxZ N p X) (hb : Below X.heap.size X Y) : BxZ N p Y := ⟨h.1, (hb.block _ (Array.getElem?_eq_some_iff.1 h.2).1).trans h.2⟩
/-- A box with a state. -/
def BxS (N p : Nat) (s : St) (v : Value) (X : World) : Prop := N ≤ p ∧ StBox p s v X
theorem BxS.later {N p : Nat} {s : St} {v : Value} {X Y : World} (h : BxS N p s v X) (hb : Below X.heap.size X Y) : BxS N p s v Y := ⟨h.1, h.2.later hb⟩
theorem BxZ.far {N p q : Nat} {X : World} (h : BxZ N p X) (hne : p ≠ q) (v0 v1 v2 v3 v4 v5 : Value) : BxZ N p ((((((X.setCell ⟨q, 0, none⟩ v0).setCell ⟨q, 1, none⟩ v1).setCell ⟨q, 2, none⟩ v2).setCell ⟨q, 3, none⟩ v3).setCell ⟨q, 4, none⟩ v4).setCell ⟨q, 5, none⟩ v5) :=
  ⟨h.1, block_far (block_far (block_far (block_far (block_far (block_far h.2 hne _ _) hne _ _) hne _ _) hne _ _) hne _ _) hne _ _⟩
theorem BxS.far {N p q : Nat} {s : St} {v : Value} {X : World} (h : BxS N p s v X) (hne : p ≠ q) (v0 v1 v2 v3 v4 v5 : Value) : BxS N p s v ((((((X.setCell ⟨q, 0, none⟩ v0).setCell ⟨q, 1, none⟩ v1).setCell ⟨q, 2, none⟩ v2).setCell ⟨q, 3, none⟩ v3).setCell ⟨q, 4, none⟩ v4).setCell ⟨q, 5, none⟩ v5) :=
  ⟨h.1, by have h2 := h.2; unfold StBox at h2 ⊢; exact block_far (block_far (block_far (block_far (block_far (block_far h2 hne _ _) hne _ _) hne _ _) hne _ _) hne _ _) hne _ _⟩
theorem BxZ.full {N p : Nat} {X : World} (h : BxZ N p X) (s : St) (v : Value) : BxS N p s v ((((((X.setCell ⟨p, 0, none⟩ (.int .i64 s.step)).setCell ⟨p, 1, none⟩ (.int .i64 s.place)).setCell ⟨p, 2, none⟩ (.bool s.strict)).setCell ⟨p, 3, none⟩ v).setCell ⟨p, 4, none⟩ (.int .i64 s.ahead)).setCell ⟨p, 5, none⟩ (.bool s.last)) := by
  refine ⟨h.1, ?_⟩
  unfold StBox
  have hlt := (Array.getElem?_eq_some_iff.1 h.2).1
  have hk := h.2
  simp only [World.setCell, Array.getElem?_modify]
  simp [hk]
theorem Below.six {N : Nat} {W X : World} (h : Below N W X) {p : Nat} (hp : N ≤ p) (v0 v1 v2 v3 v4 v5 : Value) : Below N W ((((((X.setCell ⟨p, 0, none⟩ v0).setCell ⟨p, 1, none⟩ v1).setCell ⟨p, 2, none⟩ v2).setCell ⟨p, 3, none⟩ v3).setCell ⟨p, 4, none⟩ v4).setCell ⟨p, 5, none⟩ v5) :=
  (((((h.setCell (p := ⟨p, 0, none⟩) hp _).setCell (p := ⟨p, 1, none⟩) hp _).setCell (p := ⟨p, 2, none⟩) hp _).setCell (p := ⟨p, 3, none⟩) hp _).setCell (p := ⟨p, 4, none⟩) hp _).setCell (p := ⟨p, 5, none⟩) hp _
/-- A store of a whole state into a new box. -/
theorem store_state {o : Oper} {a : Act} {w : World} {K : Act → World → Prop} {Q : Exit → Act → World → Prop} (x y : Operand) (N p : Nat) (s : St) (a3 : Option Addr) (n3 c3 : Nat) (ho : o.op = .store 41 x y) (hd : o.dst = none)
    (e1 : a.eval x = .pointer (some ⟨p, 0, none⟩)) (e2 : a.eval y = stV s (.slice a3 n3 c3)) (hb : BxZ N p w)
    (h : K a ((((((w.setCell ⟨p, 0, none⟩ (.int .i64 s.step)).setCell ⟨p, 1, none⟩ (.int .i64 s.place)).setCell ⟨p, 2, none⟩ (.bool s.strict)).setCell ⟨p, 3, none⟩ (.slice a3 n3 c3)).setCell ⟨p, 4, none⟩ (.int .i64 s.ahead)).setCell ⟨p, 5, none⟩ (.bool s.last))) : Oper.wp Tryz.prog o a w K Q := by
  obtain ⟨d, op, t, q, af, g⟩ := o
  dsimp only at ho hd
  subst ho hd
  have hz := hb.2
  have z0 : w.cell? ⟨p, 0, none⟩ = some (.int .i64 0) := by simp [World.cell?, hz]
  have z1 : w.cell? ⟨p, 1, none⟩ = some (.int .i64 0) := by simp [World.cell?, hz]
  have z2 : w.cell? ⟨p, 2, none⟩ = some (.bool false) := by simp [World.cell?, hz]
  have z3 : w.cell? ⟨p, 3, none⟩ = some (.slice none 0 0) := by simp [World.cell?, hz]
  have z4 : w.cell? ⟨p, 4, none⟩ = some (.int .i64 0) := by simp [World.cell?, hz]
  have z5 : w.cell? ⟨p, 5, none⟩ = some (.bool false) := by simp [World.cell?, hz]
  have f0 : ∀ j, w.frozen? ⟨p, j, none⟩ = false := fun j => by simp [World.frozen?, hz]
  unfold Oper.wp
  simp only [execOp, e1, e2, List.map_toArray, List.map_cons, List.map_nil]
  go_simp
  exact h
noncomputable def reg17 : Code := (Tryz.f17.body.bind (regOf 6)).getD .skip
set_option maxHeartbeats 4000000 in
theorem rsame_reg6 {P1 P2 p1 o1 p2 o2 n c1 c2 i gn m1 m2 : Nat} {f1 f2 : Option Addr} {s : St} (wr : World) (hlti : (i : Int) < n)
    (hF0 : Hid (∀ X, Below wr.drew.heap.size wr.drew X → X.cell? ⟨P1, 0, none⟩ = some (.slice (some ⟨p1, o1, none⟩) n c1) ∧ X.cell? ⟨P2, 0, none⟩ = some (.slice (some ⟨p2, o2, none⟩) n c2) ∧
      X.cell? ⟨p1, o1 + i * 6, none⟩ = some (.int .i64 s.step) ∧ X.cell? ⟨p1, o1 + i * 6 + 1, none⟩ = some (.int .i64 s.place) ∧ X.cell? ⟨p1, o1 + i * 6 + 2, none⟩ = some (.bool s.strict) ∧ X.cell? ⟨p1, o1 + i * 6 + 3, none⟩ = some (.slice f1 gn m1) ∧ X.cell? ⟨p1, o1 + i * 6 + 4, none⟩ = some (.int .i64 s.ahead) ∧ X.cell? ⟨p1, o1 + i * 6 + 5, none⟩ = some (.bool s.last) ∧
      X.cell? ⟨p2, o2 + i * 6, none⟩ = some (.int .i64 s.step) ∧ X.cell? ⟨p2, o2 + i * 6 + 1, none⟩ = some (.int .i64 s.place) ∧ X.cell? ⟨p2, o2 + i * 6 + 2, none⟩ = some (.bool s.strict) ∧ X.cell? ⟨p2, o2 + i * 6 + 3, none⟩ = some (.slice f2 gn m2) ∧ X.cell? ⟨p2, o2 + i * 6 + 4, none⟩ = some (.int .i64 s.ahead) ∧ X.cell? ⟨p2, o2 + i * 6 + 5, none⟩ = some (.bool s.last)))
    (u0 u1 u4 u8 u9 u10 u11 u12 u13 u14 u15 u16 u17 u18 u19 u20 u21 u22 u23 u24 u25 u26 u27 u28 u29 u30 u31 u32 u33 u34 u35 u36 u47 u48 u49 u50 u51 u52 u53 u54 u55 u56 u57 u58 u59 u60 u61 u62 u63 u64 u65 u66 u67 u68 u69 u70 u71 u72 u73 u74 u75 u76 u77 u78 u79 u80 u81 u82 u83 u84 u85 u86 u87 y6 y7 y37 y38 y39 y40 y41 y42 y43 y44 y45 y46 : Value) (Q0 : Exit → Act → World → Prop)
    (hQ0 : ∀ (p6 p7 : Nat) (x37 x38 x39 x40 x41 x42 x43 x44 x45 x46 : Value) (X : World), BxS wr.drew.heap.size p6 s (.slice f1 gn m1) X → BxS wr.drew.heap.size p7 s (.slice f2 gn m2) X → Below wr.drew.heap.size wr.drew X → Q0 .normal ({ tmps := #[u0, u1, .pointer (some ⟨P1, 0, none⟩), .pointer (some ⟨P2, 0, none⟩), u4, .int .i64 i, .pointer (some ⟨p6, 0, none⟩), .pointer (some ⟨p7, 0, none⟩), u8, u9, u10, u11, u12, u13, u14, u15, u16, u17, u18, u19, u20, u21, u22, u23, u24, u25, u26, u27, u28, u29, u30, u31, u32, u33, u34, u35, u36, x37, x38, x39, x40, x41, x42, x43, x44, x45, x46, u47, u48, u49, u50, u51, u52, u53, u54, u55, u56, u57, u58, u59, u60, u61, u62, u63, u64, u65, u66, u67, u68, u69, u70, u71, u72, u73, u74, u75, u76, u77, u78, u79, u80, u81, u82, u83, u84, u85, u86, u87], defers := [] }) X) :
    Code.wp Tryz.prog reg17 Q0 ({ tmps := #[u0, u1, .pointer (some ⟨P1, 0, none⟩), .pointer (some ⟨P2, 0, none⟩), u4, .int .i64 i, y6, y7, u8, u9, u10, u11, u12, u13, u14, u15, u16, u17, u18, u19, u20, u21, u22, u23, u24, u25, u26, u27, u28, u29, u30, u31, u32, u33, u34, u35, u36, y37, y38, y39, y40, y41, y42, y43, y44, y45, y46, u47, u48, u49, u50, u51, u52, u53, u54, u55, u56, u57, u58, u59, u60, u61, u62, u63, u64, u65, u66, u67, u68, u69, u70, u71, u72, u73, u74, u75, u76, u77, u78, u79, u80, u81, u82, u83, u84, u85, u86, u87], defers := [] }) wr := by
  conv => arg 2; whnf
  obtain ⟨W0, hW0⟩ : ∃ W0, wr.drew = W0 := ⟨_, rfl⟩
  rw [hW0] at hF0 hQ0
  have hF := hF0
  have hW' := Below.refl W0.heap.size W0
  have hmx : Tryz.prog.follows .mixedOrders = true := by kernel_rfl
  replace hQ0 := Lib.hid hQ0
  refine wp_region_noPanic ?_
  refine wp_region_held (S := fun Z => Below W0.heap.size W0 Z) hmx ?_
  try dsimp only [List.append]
  change wpAnyH _ _ _ _ _ _ _ _ wr.drew
  rw [hW0]
  generalize hops : (List.toArray _ : Array Oper) = ops
  generalize hQQ : NoPanic _ = QQ
  have hQp : ∀ (d : Option Tmp) (v : Value) (c : _) (a : Act) (w : World), QQ (.panic c) (a.put d v) w → QQ (.panic c) a w := by rw [← hQQ]; intro d v c a w h; exact h
  have hNS : Region.noSelect ops = true := by rw [← hops]; kernel_rfl
  obtain ⟨oo, hop0⟩ : ∃ o, ops[0]? = some o := ⟨_, by rw [← hops]; rfl⟩
  have hv := hop0
  rw [← hops] at hv
  simp only [List.getElem?_toArray, List.getElem?_cons_succ, List.getElem?_cons_zero, Option.some.injEq] at hv
  subst hv
  obtain ⟨oo, hop1⟩ : ∃ o, ops[1]? = some o := ⟨_, by rw [← hops]; rfl⟩
  have hv := hop1
  rw [← hops] at hv
  simp only [List.getElem?_toArray, List.getElem?_cons_succ, List.getElem?_cons_zero, Option.some.injEq] at hv
  subst hv
  obtain ⟨oo, hop2⟩ : ∃ o, ops[2]? = some o := ⟨_, by rw [← hops]; rfl⟩
  have hv := hop2
  rw [← hops] at hv
  simp only [List.getElem?_toArray, List.getElem?_cons_succ, List.getElem?_cons_zero, Option.some.injEq] at hv
  subst hv
  obtain ⟨oo, hop3⟩ : ∃ o, ops[3]? = some o := ⟨_, by rw [← hops]; rfl⟩
  have hv := hop3
  rw [← hops] at hv
  simp only [List.getElem?_toArray, List.getElem?_cons_succ, List.getElem?_cons_zero, Option.some.injEq] at hv
  subst hv
  obtain ⟨oo, hop4⟩ : ∃ o, ops[4]? = some o := ⟨_, by rw [← hops]; rfl⟩
  have hv := hop4
  rw [← hops] at hv
  simp only [List.getElem?_toArray, List.getElem?_cons_succ, List.getElem?_cons_zero, Option.some.injEq] at hv
  subst hv
  obtain ⟨oo, hop5⟩ : ∃ o, ops[5]? = some o := ⟨_, by rw [← hops]; rfl⟩
  have hv := hop5
  rw [← hops] at hv
  simp only [List.getElem?_toArray, List.getElem?_cons_succ, List.getElem?_cons_zero, Option.some.injEq] at hv
  subst hv
  obtain ⟨oo, hop6⟩ : ∃ o, ops[6]? = some o := ⟨_, by rw [← hops]; rfl⟩
  have hv := hop6
  rw [← hops] at hv
  simp only [List.getElem?_toArray, List.getElem?_cons_succ, List.getElem?_cons_zero, Option.some.injEq] at hv
  subst hv
  obtain ⟨oo, hop7⟩ : ∃ o, ops[7]? = some o := ⟨_, by rw [← hops]; rfl⟩
  have hv := hop7
  rw [← hops] at hv
  simp only [List.getElem?_toArray, List.getElem?_cons_succ, List.getElem?_cons_zero, Option.some.injEq] at hv
  subst hv
  obtain ⟨oo, hop8⟩ : ∃ o, ops[8]? = some o := ⟨_, by rw [← hops]; rfl⟩
  have hv := hop8
  rw [← hops] at hv
  simp only [List.getElem?_toArray, List.getElem?_cons_succ, List.getElem?_cons_zero, Option.some.injEq] at hv
  subst hv
  obtain ⟨oo, hop9⟩ : ∃ o, ops[9]? = some o := ⟨_, by rw [← hops]; rfl⟩
  have hv := hop9
  rw [← hops] at hv
  simp only [List.getElem?_toArray, List.getElem?_cons_succ, List.getElem?_cons_zero, Option.some.injEq] at hv
  subst hv
  obtain ⟨oo, hop10⟩ : ∃ o, ops[10]? = some o := ⟨_, by rw [← hops]; rfl⟩
  have hv := hop10
  rw [← hops] at hv
  simp only [List.getElem?_toArray, List.getElem?_cons_succ, List.getElem?_cons_zero, Option.some.injEq] at hv
  subst hv
  obtain ⟨oo, hop11⟩ : ∃ o, ops[11]? = some o := ⟨_, by rw [← hops]; rfl⟩
  have hv := hop11
  rw [← hops] at hv
  simp only [List.getElem?_toArray, List.getElem?_cons_succ, List.getElem?_cons_zero, Option.some.injEq] at hv
  subst hv
  obtain ⟨oo, hop12⟩ : ∃ o, ops[12]? = some o := ⟨_, by rw [← hops]; rfl⟩
  have hv := hop12
  rw [← hops] at hv
  simp only [List.getElem?_toArray, List.getElem?_cons_succ, List.getElem?_cons_zero, Option.some.injEq] at hv
  subst hv
  obtain ⟨oo, hop13⟩ : ∃ o, ops[13]? = some o := ⟨_, by rw [← hops]; rfl⟩
  have hv := hop13
  rw [← hops] at hv
  simp only [List.getElem?_toArray, List.getElem?_cons_succ, List.getElem?_cons_zero, Option.some.injEq] at hv
  subst hv
  have H13 : ∀ (s37 s38 s39 s40 s41 s42 s43 s44 s45 : Value) (p6 : Nat) (p7 : Nat) (X : World), Below W0.heap.size W0 X → BxZ W0.heap.size p7 X → BxS W0.heap.size p6 s (.slice f1 gn m1) X → p6 ≠ p7 → wpAnyH Tryz.prog .any ops QQ (fun Z => Below W0.heap.size W0 Z) 1 (fsH 14 13 []) ({ tmps := #[u0, u1, .pointer (some ⟨P1, 0, none⟩), .pointer (some ⟨P2, 0, none⟩), u4, .int .i64 i, .pointer (some ⟨p6, 0, none⟩), .pointer (some ⟨p7, 0, none⟩), u8, u9, u10, u11, u12, u13, u14, u15, u16, u17, u18, u19, u20, u21, u22, u23, u24, u25, u26, u27, u28, u29, u30, u31, u32, u33, u34, u35, u36, s37, s38, s39, s40, s41, s42, s43, s44, s45, stV s (.slice f2 gn m2), u47, u48, u49, u50, u51, u52, u53, u54, u55, u56, u57, u58, u59, u60, u61, u62, u63, u64, u65, u66, u67, u68, u69, u70, u71, u72, u73, u74, u75, u76, u77, u78, u79, u80, u81, u82, u83, u84, u85, u86, u87], defers := [] }) X := by
    as_aux_lemma =>
    intro s37 s38 s39 s40 s41 s42 s43 s44 s45 p6 p7 X hW' f7 g6 fne
    refine wpAnyH_all (rs := [13]) (by rw [← hops]; kernel_rfl) (by simp) ?_
    intro ix hix
    simp only [List.mem_cons, List.not_mem_nil, or_false] at hix
    rcases hix with rfl
    · refine held_op hop13 (by rfl) (fun K' hK => ?_)
      have g7' := f7
      refine store_state (.tmp 7) (.tmp 46) W0.heap.size p7 s f2 gn m2 rfl rfl (by rfl) (by rfl) f7 ?_
      have g7 := f7.full s (.slice f2 gn m2)
      replace g6 := g6.far (q := p7) (by first | exact fne.symm | exact fne) (.int .i64 s.step) (.int .i64 s.place) (.bool s.strict) (.slice f2 gn m2) (.int .i64 s.ahead) (.bool s.last)
      replace hW' := Below.six hW' g7'.1 (.int .i64 s.step) (.int .i64 s.place) (.bool s.strict) (.slice f2 gn m2) (.int .i64 s.ahead) (.bool s.last)
      refine hK _ _ ⟨hW', ?_⟩
      clear hK K'
      (try simp only [Act.put, List.setIfInBounds_toArray, List.set_cons_zero, List.set_cons_succ])
      rw [show (fsH 14 13 []).setIfInBounds 13 true = (fsH 14 14 []) from by kernel_rfl]
      refine wpAnyH_done (by rw [← hops]; kernel_rfl) ?_ _
      rw [← hQQ]
      exact NoPanic.normal (hQ0.out _ _ _ _ _ _ _ _ _ _ _ _ _ g6 g7 hW')
  have H12 : ∀ (s37 s38 s39 s40 s42 s43 s44 s45 : Value) (p6 : Nat) (p7 : Nat) (X : World), Below W0.heap.size W0 X → BxZ W0.heap.size p6 X → BxZ W0.heap.size p7 X → p6 ≠ p7 → wpAnyH Tryz.prog .any ops QQ (fun Z => Below W0.heap.size W0 Z) 2 (fsH 14 12 []) ({ tmps := #[u0, u1, .pointer (some ⟨P1, 0, none⟩), .pointer (some ⟨P2, 0, none⟩), u4, .int .i64 i, .pointer (some ⟨p6, 0, none⟩), .pointer (some ⟨p7, 0, none⟩), u8, u9, u10, u11, u12, u13, u14, u15, u16, u17, u18, u19, u20, u21, u22, u23, u24, u25, u26, u27, u28, u29, u30, u31, u32, u33, u34, u35, u36, s37, s38, s39, s40, stV s (.slice f1 gn m1), s42, s43, s44, s45, stV s (.slice f2 gn m2), u47, u48, u49, u50, u51, u52, u53, u54, u55, u56, u57, u58, u59, u60, u61, u62, u63, u64, u65, u66, u67, u68, u69, u70, u71, u72, u73, u74, u75, u76, u77, u78, u79, u80, u81, u82, u83, u84, u85, u86, u87], defers := [] }) X := by
    as_aux_lemma =>
    intro s37 s38 s39 s40 s42 s43 s44 s45 p6 p7 X hW' f6 f7 fne
    refine wpAnyH_all (rs := [12]) (by rw [← hops]; kernel_rfl) (by simp) ?_
    intro ix hix
    simp only [List.mem_cons, List.not_mem_nil, or_false] at hix
    rcases hix with rfl
    · refine held_op hop12 (by rfl) (fun K' hK => ?_)
      have g6' := f6
      refine store_state (.tmp 6) (.tmp 41) W0.heap.size p6 s f1 gn m1 rfl rfl (by rfl) (by rfl) f6 ?_
      have g6 := f6.full s (.slice f1 gn m1)
      replace f7 := f7.far (q := p6) (by first | exact fne.symm | exact fne) (.int .i64 s.step) (.int .i64 s.place) (.bool s.strict) (.slice f1 gn m1) (.int .i64 s.ahead) (.bool s.last)
      replace hW' := Below.six hW' g6'.1 (.int .i64 s.step) (.int .i64 s.place) (.bool s.strict) (.slice f1 gn m1) (.int .i64 s.ahead) (.bool s.last)
      refine hK _ _ ⟨hW', ?_⟩
      clear hK K'
      (try simp only [Act.put, List.setIfInBounds_toArray, List.set_cons_zero, List.set_cons_succ])
      rw [show (fsH 14 12 []).setIfInBounds 12 true = (fsH 14 13 []) from by kernel_rfl]
      exact H13 _ _ _ _ _ _ _ _ _ _ _ _ hW' f7 g6 fne
  have H10_11 : ∀ (s6 s37 s38 s39 s40 s42 s43 s44 s45 : Value) (p7 : Nat) (X : World), Below W0.heap.size W0 X → BxZ W0.heap.size p7 X → wpAnyH Tryz.prog .any ops QQ (fun Z => Below W0.heap.size W0 Z) 3 (fsH 14 10 [11]) ({ tmps := #[u0, u1, .pointer (some ⟨P1, 0, none⟩), .pointer (some ⟨P2, 0, none⟩), u4, .int .i64 i, s6, .pointer (some ⟨p7, 0, none⟩), u8, u9, u10, u11, u12, u13, u14, u15, u16, u17, u18, u19, u20, u21, u22, u23, u24, u25, u26, u27, u28, u29, u30, u31, u32, u33, u34, u35, u36, s37, s38, s39, s40, stV s (.slice f1 gn m1), s42, s43, s44, s45, stV s (.slice f2 gn m2), u47, u48, u49, u50, u51, u52, u53, u54, u55, u56, u57, u58, u59, u60, u61, u62, u63, u64, u65, u66, u67, u68, u69, u70, u71, u72, u73, u74, u75, u76, u77, u78, u79, u80, u81, u82, u83, u84, u85, u86, u87], defers := [] }) X := by
    as_aux_lemma =>
    intro s6 s37 s38 s39 s40 s42 s43 s44 s45 p7 X hW' f7
    refine wpAnyH_all (rs := [10]) (by rw [← hops]; kernel_rfl) (by simp) ?_
    intro ix hix
    simp only [List.mem_cons, List.not_mem_nil, or_false] at hix
    rcases hix with rfl
    · refine held_op hop10 (by rfl) (fun K' hK => ?_)
      go_simp
      have f6 : BxZ W0.heap.size X.heap.size (X.alloc (.cells #[.int .i64 0, .int .i64 0, .bool false, .slice none 0 0, .int .i64 0, .bool false] 41)) := ⟨hW'.size, World.alloc_heap_new X _⟩
      have hlt0 := (Array.getElem?_eq_some_iff.1 f7.2).1
      have fne := Nat.ne_of_lt hlt0
      replace fne := fne.symm
      replace f7 := f7.later (kept_new X (.cells #[.int .i64 0, .int .i64 0, .bool false, .slice none 0 0, .int .i64 0, .bool false] 41))
      replace hW' := kept_trans hW' (kept_new X (.cells #[.int .i64 0, .int .i64 0, .bool false, .slice none 0 0, .int .i64 0, .bool false] 41))
      refine hK _ _ ⟨hW', ?_⟩
      clear hK K'
      (try simp only [Act.put, List.setIfInBounds_toArray, List.set_cons_zero, List.set_cons_succ])
      rw [show (fsH 14 10 [11]).setIfInBounds 10 true = (fsH 14 12 []) from by kernel_rfl]
      exact H12 _ _ _ _ _ _ _ _ _ _ _ hW' f6 f7 fne
  have H11 : ∀ (s7 s37 s38 s39 s40 s42 s43 s44 s45 : Value) (p6 : Nat) (X : World), Below W0.heap.size W0 X → BxZ W0.heap.size p6 X → wpAnyH Tryz.prog .any ops QQ (fun Z => Below W0.heap.size W0 Z) 3 (fsH 14 11 []) ({ tmps := #[u0, u1, .pointer (some ⟨P1, 0, none⟩), .pointer (some ⟨P2, 0, none⟩), u4, .int .i64 i, .pointer (some ⟨p6, 0, none⟩), s7, u8, u9, u10, u11, u12, u13, u14, u15, u16, u17, u18, u19, u20, u21, u22, u23, u24, u25, u26, u27, u28, u29, u30, u31, u32, u33, u34, u35, u36, s37, s38, s39, s40, stV s (.slice f1 gn m1), s42, s43, s44, s45, stV s (.slice f2 gn m2), u47, u48, u49, u50, u51, u52, u53, u54, u55, u56, u57, u58, u59, u60, u61, u62, u63, u64, u65, u66, u67, u68, u69, u70, u71, u72, u73, u74, u75, u76, u77, u78, u79, u80, u81, u82, u83, u84, u85, u86, u87], defers := [] }) X := by
    as_aux_lemma =>
    intro s7 s37 s38 s39 s40 s42 s43 s44 s45 p6 X hW' f6
    refine wpAnyH_all (rs := [11]) (by rw [← hops]; kernel_rfl) (by simp) ?_
    intro ix hix
    simp only [List.mem_cons, List.not_mem_nil, or_false] at hix
    rcases hix with rfl
    · refine held_op hop11 (by rfl) (fun K' hK => ?_)
      go_simp
      have f7 : BxZ W0.heap.size X.heap.size (X.alloc (.cells #[.int .i64 0, .int .i64 0, .bool false, .slice none 0 0, .int .i64 0, .bool false] 41)) := ⟨hW'.size, World.alloc_heap_new X _⟩
      have hlt0 := (Array.getElem?_eq_some_iff.1 f6.2).1
      have fne := Nat.ne_of_lt hlt0
      replace f6 := f6.later (kept_new X (.cells #[.int .i64 0, .int .i64 0, .bool false, .slice none 0 0, .int .i64 0, .bool false] 41))
      replace hW' := kept_trans hW' (kept_new X (.cells #[.int .i64 0, .int .i64 0, .bool false, .slice none 0 0, .int .i64 0, .bool false] 41))
      refine hK _ _ ⟨hW', ?_⟩
      clear hK K'
      (try simp only [Act.put, List.setIfInBounds_toArray, List.set_cons_zero, List.set_cons_succ])
      rw [show (fsH 14 11 []).setIfInBounds 11 true = (fsH 14 12 []) from by kernel_rfl]
      exact H12 _ _ _ _ _ _ _ _ _ _ _ hW' f6 f7 fne
  have H10 : ∀ (s6 s7 s37 s38 s39 s40 s42 s43 s44 s45 : Value) (X : World), Below W0.heap.size W0 X → wpAnyH Tryz.prog .any ops QQ (fun Z => Below W0.heap.size W0 Z) 4 (fsH 14 10 []) ({ tmps := #[u0, u1, .pointer (some ⟨P1, 0, none⟩), .pointer (some ⟨P2, 0, none⟩), u4, .int .i64 i, s6, s7, u8, u9, u10, u11, u12, u13, u14, u15, u16, u17, u18, u19, u20, u21, u22, u23, u24, u25, u26, u27, u28, u29, u30, u31, u32, u33, u34, u35, u36, s37, s38, s39, s40, stV s (.slice f1 gn m1), s42, s43, s44, s45, stV s (.slice f2 gn m2), u47, u48, u49, u50, u51, u52, u53, u54, u55, u56, u57, u58, u59, u60, u61, u62, u63, u64, u65, u66, u67, u68, u69, u70, u71, u72, u73, u74, u75, u76, u77, u78, u79, u80, u81, u82, u83, u84, u85, u86, u87], defers := [] }) X := by
    as_aux_lemma =>
    intro s6 s7 s37 s38 s39 s40 s42 s43 s44 s45 X hW'
    refine wpAnyH_all (rs := [10, 11]) (by rw [← hops]; kernel_rfl) (by simp) ?_
    intro ix hix
    simp only [List.mem_cons, List.not_mem_nil, or_false] at hix
    rcases hix with rfl | rfl
    · refine held_op hop10 (by rfl) (fun K' hK => ?_)
      go_simp
      have f6 : BxZ W0.heap.size X.heap.size (X.alloc (.cells #[.int .i64 0, .int .i64 0, .bool false, .slice none 0 0, .int .i64 0, .bool false] 41)) := ⟨hW'.size, World.alloc_heap_new X _⟩
      replace hW' := kept_trans hW' (kept_new X (.cells #[.int .i64 0, .int .i64 0, .bool false, .slice none 0 0, .int .i64 0, .bool false] 41))
      refine hK _ _ ⟨hW', ?_⟩
      clear hK K'
      (try simp only [Act.put, List.setIfInBounds_toArray, List.set_cons_zero, List.set_cons_succ])
      rw [show (fsH 14 10 []).setIfInBounds 10 true = (fsH 14 11 []) from by kernel_rfl]
      exact H11 _ _ _ _ _ _ _ _ _ _ _ hW' f6
    · refine held_op hop11 (by rfl) (fun K' hK => ?_)
      go_simp
      have f7 : BxZ W0.heap.size X.heap.size (X.alloc (.cells #[.int .i64 0, .int .i64 0, .bool false, .slice none 0 0, .int .i64 0, .bool false] 41)) := ⟨hW'.size, World.alloc_heap_new X _⟩
      replace hW' := kept_trans hW' (kept_new X (.cells #[.int .i64 0, .int .i64 0, .bool false, .slice none 0 0, .int .i64 0, .bool false] 41))
      refine hK _ _ ⟨hW', ?_⟩
      clear hK K'
      (try simp only [Act.put, List.setIfInBounds_toArray, List.set_cons_zero, List.set_cons_succ])
      rw [show (fsH 14 10 []).setIfInBounds 11 true = (fsH 14 10 [11]) from by kernel_rfl]
      exact H10_11 _ _ _ _ _ _ _ _ _ _ _ hW' f7
  have hsz : ops.size = 14 := by rw [← hops]; rfl
  rw [hsz]
  rw [show Array.replicate 14 false = (fsH 14 0 []) from by rfl]
  refine wpAnyH_take (i := 0) (v := .pointer (some ⟨P1, 0, none⟩)) hop0 hNS (by rw [← hops]; kernel_rfl) (by rw [← hops]; kernel_rfl) (hQp _ _) (.inl ⟨(by rfl), fun wz hz => by
      have hW' := hz
      first | (go_simp; done) | (obtain ⟨z0', z1', u0, u1, u2, u3, u4, u5, t0, t1, t2, t3, t4, t5⟩ := hF.out _ hW'; go_simp)⟩) hW' ?_
  (try simp only [Act.put, List.setIfInBounds_toArray, List.set_cons_zero, List.set_cons_succ])
  rw [show (fsH 14 0 []).setIfInBounds 0 true = (fsH 14 1 []) from by kernel_rfl]
  refine wpAnyH_take (i := 1) (v := .slice (some ⟨p1, o1, none⟩) n c1) hop1 hNS (by rw [← hops]; kernel_rfl) (by rw [← hops]; kernel_rfl) (hQp _ _) (.inl ⟨(by rfl), fun wz hz => by
      have hW' := hz
      first | (go_simp; done) | (obtain ⟨z0', z1', u0, u1, u2, u3, u4, u5, t0, t1, t2, t3, t4, t5⟩ := hF.out _ hW'; go_simp)⟩) hW' ?_
  (try simp only [Act.put, List.setIfInBounds_toArray, List.set_cons_zero, List.set_cons_succ])
  rw [show (fsH 14 1 []).setIfInBounds 1 true = (fsH 14 2 []) from by kernel_rfl]
  refine wpAnyH_take (i := 2) (v := .int .i64 i) hop2 hNS (by rw [← hops]; kernel_rfl) (by rw [← hops]; kernel_rfl) (hQp _ _) (.inl ⟨(by rfl), fun wz hz => by
      have hW' := hz
      first | (go_simp; done) | (obtain ⟨z0', z1', u0, u1, u2, u3, u4, u5, t0, t1, t2, t3, t4, t5⟩ := hF.out _ hW'; go_simp)⟩) hW' ?_
  (try simp only [Act.put, List.setIfInBounds_toArray, List.set_cons_zero, List.set_cons_succ])
  rw [show (fsH 14 2 []).setIfInBounds 2 true = (fsH 14 3 []) from by kernel_rfl]
  refine wpAnyH_take (i := 3) (v := .pointer (some ⟨p1, o1 + i * 6, none⟩)) hop3 hNS (by rw [← hops]; kernel_rfl) (by rw [← hops]; kernel_rfl) (hQp _ _) (.inl ⟨(by rfl), fun wz hz => by
      have hW' := hz
      first | (go_simp; done) | (obtain ⟨z0', z1', u0, u1, u2, u3, u4, u5, t0, t1, t2, t3, t4, t5⟩ := hF.out _ hW'; go_simp)⟩) hW' ?_
  (try simp only [Act.put, List.setIfInBounds_toArray, List.set_cons_zero, List.set_cons_succ])
  rw [show (fsH 14 3 []).setIfInBounds 3 true = (fsH 14 4 []) from by kernel_rfl]
  refine wpAnyH_take (i := 4) (v := stV s (.slice f1 gn m1)) hop4 hNS (by rw [← hops]; kernel_rfl) (by rw [← hops]; kernel_rfl) (hQp _ _) (.inl ⟨(by rfl), fun wz hz => by
      have hW' := hz
      first | (go_simp; done) | (obtain ⟨z0', z1', u0, u1, u2, u3, u4, u5, t0, t1, t2, t3, t4, t5⟩ := hF.out _ hW'; go_simp)⟩) hW' ?_
  (try simp only [Act.put, List.setIfInBounds_toArray, List.set_cons_zero, List.set_cons_succ])
  rw [show (fsH 14 4 []).setIfInBounds 4 true = (fsH 14 5 []) from by kernel_rfl]
  refine wpAnyH_take (i := 5) (v := .pointer (some ⟨P2, 0, none⟩)) hop5 hNS (by rw [← hops]; kernel_rfl) (by rw [← hops]; kernel_rfl) (hQp _ _) (.inl ⟨(by rfl), fun wz hz => by
      have hW' := hz
      first | (go_simp; done) | (obtain ⟨z0', z1', u0, u1, u2, u3, u4, u5, t0, t1, t2, t3, t4, t5⟩ := hF.out _ hW'; go_simp)⟩) hW' ?_
  (try simp only [Act.put, List.setIfInBounds_toArray, List.set_cons_zero, List.set_cons_succ])
  rw [show (fsH 14 5 []).setIfInBounds 5 true = (fsH 14 6 []) from by kernel_rfl]
  refine wpAnyH_take (i := 6) (v := .slice (some ⟨p2, o2, none⟩) n c2) hop6 hNS (by rw [← hops]; kernel_rfl) (by rw [← hops]; kernel_rfl) (hQp _ _) (.inl ⟨(by rfl), fun wz hz => by
      have hW' := hz
      first | (go_simp; done) | (obtain ⟨z0', z1', u0, u1, u2, u3, u4, u5, t0, t1, t2, t3, t4, t5⟩ := hF.out _ hW'; go_simp)⟩) hW' ?_
  (try simp only [Act.put, List.setIfInBounds_toArray, List.set_cons_zero, List.set_cons_succ])
  rw [show (fsH 14 6 []).setIfInBounds 6 true = (fsH 14 7 []) from by kernel_rfl]
  refine wpAnyH_take (i := 7) (v := .int .i64 i) hop7 hNS (by rw [← hops]; kernel_rfl) (by rw [← hops]; kernel_rfl) (hQp _ _) (.inl ⟨(by rfl), fun wz hz => by
      have hW' := hz
      first | (go_simp; done) | (obtain ⟨z0', z1', u0, u1, u2, u3, u4, u5, t0, t1, t2, t3, t4, t5⟩ := hF.out _ hW'; go_simp)⟩) hW' ?_
  (try simp only [Act.put, List.setIfInBounds_toArray, List.set_cons_zero, List.set_cons_succ])
  rw [show (fsH 14 7 []).setIfInBounds 7 true = (fsH 14 8 []) from by kernel_rfl]
  refine wpAnyH_take (i := 8) (v := .pointer (some ⟨p2, o2 + i * 6, none⟩)) hop8 hNS (by rw [← hops]; kernel_rfl) (by rw [← hops]; kernel_rfl) (hQp _ _) (.inl ⟨(by rfl), fun wz hz => by
      have hW' := hz
      first | (go_simp; done) | (obtain ⟨z0', z1', u0, u1, u2, u3, u4, u5, t0, t1, t2, t3, t4, t5⟩ := hF.out _ hW'; go_simp)⟩) hW' ?_
  (try simp only [Act.put, List.setIfInBounds_toArray, List.set_cons_zero, List.set_cons_succ])
  rw [show (fsH 14 8 []).setIfInBounds 8 true = (fsH 14 9 []) from by kernel_rfl]
  refine wpAnyH_take (i := 9) (v := stV s (.slice f2 gn m2)) hop9 hNS (by rw [← hops]; kernel_rfl) (by rw [← hops]; kernel_rfl) (hQp _ _) (.inl ⟨(by rfl), fun wz hz => by
      have hW' := hz
      first | (go_simp; done) | (obtain ⟨z0', z1', u0, u1, u2, u3, u4, u5, t0, t1, t2, t3, t4, t5⟩ := hF.out _ hW'; go_simp)⟩) hW' ?_
  (try simp only [Act.put, List.setIfInBounds_toArray, List.set_cons_zero, List.set_cons_succ])
  rw [show (fsH 14 9 []).setIfInBounds 9 true = (fsH 14 10 []) from by kernel_rfl]
  exact H10 _ _ _ _ _ _ _ _ _ _ _ hW' 
end Go.Proofs.YtccmnngeibpcmaaGreat.Tree
/- The reference's Same at automata that are the same. -/
namespace Go.Proofs.YtccmnngeibpcmaaGreat.Tree
open Go.ChangeShapes Go.WideShapes Go.ChangeAt Go.RowKit
set_option linter.unusedVariables false
set_option linter.unusedSimpArgs false
set_option maxRecDepth 100000
attribute [local go_sem] Oper.semAt_some
set_option maxHeartbeats 4000000 in
theorem rsame_true {v1 v2 av1 av2 : Value} {L1 L2 : List (St × Value)} {A : List Int} (win : Int) (hL : L1.length ≤ 1000000) (hA : A.length ≤ 1000000) (hg : ∀ x ∈ L1, x.1.gs.length ≤ 1000000) (he : L2.map (·.1) = L1.map (·.1)) (w : World)
    (h1 : StsL w v1 L1) (h2 : StsL w v2 L2) (k1 : NmsAt w av1 A) (k2 : NmsAt w av2 A) :
    Calls Tryz.prog 17 #[auV v1 av1 win, auV v2 av2 win] w fun e w' => e = .returned (.bool true) ∧ Below w.heap.size w w' := by
  have hl2 : L2.length = L1.length := by have := congrArg List.length he; simpa using this
  obtain ⟨n, hn⟩ : ∃ n, L1.length = n := ⟨_, rfl⟩
  rw [hn] at hl2 hL
  obtain ⟨a1, c1, rfl⟩ := h1.lit hn
  obtain ⟨a2, c2, rfl⟩ := h2.lit hl2
  have hr := Lib.hid (fun X (hX : Below w.heap.size w X) => rints_any (k1.later hX) (k2.later hX) (by omega))
  rw [decide_eq_true (show A = A from rfl)] at hr
  obtain ⟨b1, d1, rfl, -⟩ := k1
  obtain ⟨b2, d2, rfl, -⟩ := k2
  generalize A.length = na at *
  have hb1 := kept_new w (.cells #[.slice a1 n c1, .slice b1 na d1, .int .i64 win] 30)
  have hb2 := kept_new (w.alloc (.cells #[.slice a1 n c1, .slice b1 na d1, .int .i64 win] 30)) (.cells #[.slice a2 n c2, .slice b2 na d2, .int .i64 win] 30)
  have hp1 := (AuBox.new w (.slice a1 n c1) (.slice b1 na d1) win).later hb2
  have hp2 := AuBox.new (w.alloc (.cells #[.slice a1 n c1, .slice b1 na d1, .int .i64 win] 30)) (.slice a2 n c2) (.slice b2 na d2) win
  rw [World.size_alloc] at hp2
  have hb := kept_trans hb1 hb2
  have x0 := hp1.c0
  have x1 := hp1.c1
  have x2 := hp1.c2
  have y0 := hp2.c0
  have y1 := hp2.c1
  have y2 := hp2.c2
  have Q1 := Lib.hid (hr.out _ hb)
  replace hp1 := Lib.hid hp1
  replace hp2 := Lib.hid hp2
  replace hb := Lib.hid hb
  replace h1 := Lib.hid h1
  replace h2 := Lib.hid h2
  replace he := Lib.hid he
  replace hn := Lib.hid hn
  replace hl2 := Lib.hid hl2
  clear hb1 hb2 hr
  go_enter Tryz.func17, Tryz.ntmps17
  go_wp2_with ((with_reducible refine Q1.out.mono ?_); rintro e w3 ⟨rfl, hb3⟩; have hB3 := Lib.hid (kept_trans hb.out hb3); have hP1 := Lib.hid (hp1.out.later hb3); have hP2 := Lib.hid (hp2.out.later hb3); have z0 := hP1.out.c2; have z1 := hP2.out.c2)
  clear z0 z1 Q1 hb3 x0 x1 x2 y0 y1 y2 hp1 hp2 hb
  go_loopw [5] (fun t wr => ∃ i : Nat, i ≤ n ∧ t = .int .i64 i ∧ Hid (Below w.heap.size w wr) ∧ Hid (AuBox w.heap.size (.slice a1 n c1) (.slice b1 na d1) win wr) ∧ Hid (AuBox (w.heap.size + 1) (.slice a2 n c2) (.slice b2 na d2) win wr)) (fun t _ => n - (intOf t).toNat)
  case atStart => exact ⟨0, Nat.zero_le _, rfl, hB3, hP1, hP2⟩
  case round =>
    clear hB3 hP1 hP2
    obtain ⟨i, hi, rfl, hB, hP1, hP2⟩ := hrel
    have c0 := hP1.out.c0
    have e0 := hP2.out.c0
    by_cases hlt : i < n
    · have hlti : (i : Int) < n := by omega
      obtain ⟨⟨s, g1⟩, hx1⟩ : ∃ y, L1[i]? = some y := ⟨_, List.getElem?_eq_getElem (by rw [hn.out]; exact hlt)⟩
      obtain ⟨⟨s', g2⟩, hx2⟩ : ∃ y, L2[i]? = some y := ⟨_, List.getElem?_eq_getElem (by rw [hl2.out]; exact hlt)⟩
      obtain rfl : s' = s := by
        have := congrArg (fun l => l[i]?) he.out
        simpa [hx1, hx2] using this
      have hD : Below wr.heap.size wr wr.drew := ⟨rfl, rfl, rfl, Nat.le_refl _, fun _ _ => rfl⟩
      have hBd := kept_trans hB.out hD
      have hW1 := h1.out.later hBd
      have hW2 := h2.out.later hBd
      obtain ⟨p1, o1, rfl, u0, u1, u2, u3, u4, u5⟩ := hW1.at hx1
      obtain ⟨p2, o2, rfl, t0, t1, t2, t3, t4, t5⟩ := hW2.at hx2
      have hgl : s'.gs.length ≤ 1000000 := hg _ (List.mem_of_getElem? hx1)
      have hm1 := hW1.2 _ (List.mem_of_getElem? hx1)
      have hm2 := hW2.2 _ (List.mem_of_getElem? hx2)
      dsimp only at hm1 hm2
      have hrg := Lib.hid (fun X (hX : Below wr.drew.heap.size wr.drew X) => rints_any (hm1.later hX) (hm2.later hX) (by omega))
      rw [decide_eq_true (show s'.gs = s'.gs from rfl)] at hrg
      obtain ⟨f1, m1, rfl, -⟩ := hm1
      obtain ⟨f2, m2, rfl, -⟩ := hm2
      generalize s'.gs.length = gn at *
      have c0d := (hP1.out.later hD).c0
      have e0d := (hP2.out.later hD).c0
      have hF : Hid (∀ X, Below wr.drew.heap.size wr.drew X → X.cell? ⟨w.heap.size, 0, none⟩ = some (.slice (some ⟨p1, o1, none⟩) n c1) ∧ X.cell? ⟨w.heap.size + 1, 0, none⟩ = some (.slice (some ⟨p2, o2, none⟩) n c2) ∧
          X.cell? ⟨p1, o1 + i * 6, none⟩ = some (.int .i64 s'.step) ∧ X.cell? ⟨p1, o1 + i * 6 + 1, none⟩ = some (.int .i64 s'.place) ∧ X.cell? ⟨p1, o1 + i * 6 + 2, none⟩ = some (.bool s'.strict) ∧ X.cell? ⟨p1, o1 + i * 6 + 3, none⟩ = some (.slice f1 gn m1) ∧ X.cell? ⟨p1, o1 + i * 6 + 4, none⟩ = some (.int .i64 s'.ahead) ∧ X.cell? ⟨p1, o1 + i * 6 + 5, none⟩ = some (.bool s'.last) ∧
          X.cell? ⟨p2, o2 + i * 6, none⟩ = some (.int .i64 s'.step) ∧ X.cell? ⟨p2, o2 + i * 6 + 1, none⟩ = some (.int .i64 s'.place) ∧ X.cell? ⟨p2, o2 + i * 6 + 2, none⟩ = some (.bool s'.strict) ∧ X.cell? ⟨p2, o2 + i * 6 + 3, none⟩ = some (.slice f2 gn m2) ∧ X.cell? ⟨p2, o2 + i * 6 + 4, none⟩ = some (.int .i64 s'.ahead) ∧ X.cell? ⟨p2, o2 + i * 6 + 5, none⟩ = some (.bool s'.last)) := Lib.hid fun X hX =>
        ⟨lcell c0d hX, lcell e0d hX, lcell u0 hX, lcell u1 hX, lcell u2 hX, lcell u3 hX, lcell u4 hX, lcell u5 hX, lcell t0 hX, lcell t1 hX, lcell t2 hX, lcell t3 hX, lcell t4 hX, lcell t5 hX⟩
      replace hBd := Lib.hid hBd
      clear hW1 hW2 hx1 hx2 u0 u1 u2 u3 u4 u5 t0 t1 t2 t3 t4 t5 c0d e0d
      go_upto_region 6 with fail
      refine rsame_reg6 wr hlti hF _ _ _ _ _ _ _ _ _ _ _ _ _ _ _ _ _ _ _ _ _ _ _ _ _ _ _ _ _ _ _ _ _ _ _ _ _ _ _ _ _ _ _ _ _ _ _ _ _ _ _ _ _ _ _ _ _ _ _ _ _ _ _ _ _ _ _ _ _ _ _ _ _ _ _ _ _ _ _ _ _ _ _ _ _ _ ?_
      intro p6 p7 x37 x38 x39 x40 x41 x42 x43 x44 x45 x46 X g6 g7 hX
      have Q1 := Lib.hid (hrg.out X hX)
      obtain ⟨v0, v1, v2, v3, v4, v5⟩ := g6.2.cells
      obtain ⟨w0, w1, w2, w3', w4, w5⟩ := g7.2.cells
      have hbX := Lib.hid hX
      have hg6 := Lib.hid g6.2
      have hg7 := Lib.hid g7.2
      clear hF hrg g6 g7 c0 e0 hX
      go_wp2_with ((with_reducible refine Q1.out.mono ?_); rintro e w9 ⟨rfl, hb9⟩; have z4 := (hg6.out.later hb9).cells.2.2.2.2.1; have z5 := (hg6.out.later hb9).cells.2.2.2.2.2; have y4 := (hg7.out.later hb9).cells.2.2.2.2.1; have y5 := (hg7.out.later hb9).cells.2.2.2.2.2; have hB9 := Lib.hid (kept_trans hBd.out (kept_trans hbX.out hb9)); have hP9 := Lib.hid (hP1.out.later (kept_trans hD (kept_trans hbX.out hb9))); have hR9 := Lib.hid (hP2.out.later (kept_trans hD (kept_trans hbX.out hb9))))
      exact ⟨⟨i + 1, by omega, by go_num, hB9, hP9, hR9⟩, by simp [intOf]; omega⟩
    · have hlti : ¬ (i : Int) < n := by omega
      go_wp2_with fail
      go_ret
      exact ⟨rfl, hB.out⟩
end Go.Proofs.YtccmnngeibpcmaaGreat.Tree
/- nfa.Same at automata that are the same, and at two windows. -/
namespace Go.Proofs.YtccmnngeibpcmaaGreat.Tree
open Go.ChangeShapes Go.WideShapes Go.ChangeAt Go.RowKit
set_option linter.unusedVariables false
set_option linter.unusedSimpArgs false
set_option maxRecDepth 100000
attribute [local go_sem] Oper.semAt_some
theorem equal_V {v u : Value} {l : List Int} {w : World} (h1 : NmsAt w v l) (h2 : NmsAt w u l) (hs : l.length ≤ 1000000) :
    Calls Tryz.prog 36 #[v, u] w fun e w' => e = .returned (.bool true) ∧ Below w.heap.size w w' := by
  have hA1 : IntsAt w v l := h1
  have hA2 : IntsAt w u l := h2
  obtain ⟨a1, c1, rfl, -⟩ := h1
  obtain ⟨a2, c2, rfl, -⟩ := h2
  refine (equal_dr a1 a2 l.length l.length c1 c2 l l true w (Lib.hid (by simp)) (Lib.hid rfl) (Lib.hid rfl) (by omega) (Lib.hid hA1) (Lib.hid hA2)).mono ?_
  rintro e w' ⟨rfl, m, rfl⟩
  exact ⟨rfl, below_drewN w m⟩
set_option maxHeartbeats 1000000 in
theorem same38 (s : St) (g1 g2 : Value) (w : World) (h1 : NmsAt w g1 s.gs) (h2 : NmsAt w g2 s.gs) (hs : s.gs.length ≤ 1000000) :
    Calls Tryz.prog 38 #[stV s g1, stV s g2] w fun e w' => e = .returned (.bool true) ∧ Below w.heap.size w w' := by
  have hr := Lib.hid (fun X (hX : Below w.heap.size w X) => equal_V (h1.later hX) (h2.later hX) hs)
  obtain ⟨a1, c1, rfl, -⟩ := h1
  obtain ⟨a2, c2, rfl, -⟩ := h2
  generalize s.gs.length = gn at *
  have hb1 := kept_new w (.cells #[.int .i64 s.step, .int .i64 s.place, .bool s.strict, .slice a1 gn c1, .int .i64 s.ahead, .bool s.last] 41)
  have hb2 := kept_new (w.alloc (.cells #[.int .i64 s.step, .int .i64 s.place, .bool s.strict, .slice a1 gn c1, .int .i64 s.ahead, .bool s.last] 41)) (.cells #[.int .i64 s.step, .int .i64 s.place, .bool s.strict, .slice a2 gn c2, .int .i64 s.ahead, .bool s.last] 41)
  have k1 := (StBox.new w s (.slice a1 gn c1)).later hb2
  have k2 := StBox.new (w.alloc (.cells #[.int .i64 s.step, .int .i64 s.place, .bool s.strict, .slice a1 gn c1, .int .i64 s.ahead, .bool s.last] 41)) s (.slice a2 gn c2)
  rw [World.size_alloc] at k2
  have hb := kept_trans hb1 hb2
  have Q1 := Lib.hid (hr.out _ hb)
  obtain ⟨v0, v1, v2, v3, v4, v5⟩ := k1.cells
  obtain ⟨w0, w1, w2, w3', w4, w5⟩ := k2.cells
  replace k1 := Lib.hid k1
  replace k2 := Lib.hid k2
  replace hb := Lib.hid hb
  clear hb1 hb2 hr
  go_enter Tryz.func38, Tryz.ntmps38
  go_wp2_with ((with_reducible refine Q1.out.mono ?_); rintro e w9 ⟨rfl, hb9⟩; have z4 := (k1.out.later hb9).cells.2.2.2.2.1; have z5 := (k1.out.later hb9).cells.2.2.2.2.2; have y4 := (k2.out.later hb9).cells.2.2.2.2.1; have y5 := (k2.out.later hb9).cells.2.2.2.2.2; have hB9 := Lib.hid (kept_trans hb.out hb9))
  go_ret
  exact ⟨rfl, hB9.out⟩
set_option maxHeartbeats 2000000 in
theorem equal37 {v1 v2 : Value} {L1 L2 : List (St × Value)} (hL : L1.length ≤ 1000000) (hg : ∀ x ∈ L1, x.1.gs.length ≤ 1000000) (he : L2.map (·.1) = L1.map (·.1)) (w : World) (h1 : StsL w v1 L1) (h2 : StsL w v2 L2) :
    Calls Tryz.prog 37 #[v1, v2, .func (.func 38) #[] #[]] w fun e w' => e = .returned (.bool true) ∧ Below w.heap.size w w' := by
  have hl2 : L2.length = L1.length := by have := congrArg List.length he; simpa using this
  obtain ⟨n, hn⟩ : ∃ n, L1.length = n := ⟨_, rfl⟩
  rw [hn] at hl2 hL
  obtain ⟨a1, c1, rfl⟩ := h1.lit hn
  obtain ⟨a2, c2, rfl⟩ := h2.lit hl2
  replace h1 := Lib.hid h1
  replace h2 := Lib.hid h2
  replace he := Lib.hid he
  replace hn := Lib.hid hn
  replace hl2 := Lib.hid hl2
  go_enter Tryz.func37, Tryz.ntmps37
  go_wp2_with fail
  go_loopw [17] (fun t wr => ∃ i : Nat, i ≤ n ∧ t = .int .i64 i ∧ Hid (Below w.heap.size w wr)) (fun t _ => n - (intOf t).toNat)
  case atStart => exact ⟨0, Nat.zero_le _, rfl, Lib.hid (Below.refl _ _)⟩
  case round =>
    obtain ⟨i, hi, rfl, hB⟩ := hrel
    by_cases hlt : i < n
    · have hlti : (i : Int) < n := by omega
      obtain ⟨⟨s, g1⟩, hx1⟩ : ∃ y, L1[i]? = some y := ⟨_, List.getElem?_eq_getElem (by rw [hn.out]; exact hlt)⟩
      obtain ⟨⟨s', g2⟩, hx2⟩ : ∃ y, L2[i]? = some y := ⟨_, List.getElem?_eq_getElem (by rw [hl2.out]; exact hlt)⟩
      obtain rfl : s' = s := by
        have := congrArg (fun l => l[i]?) he.out
        simpa [hx1, hx2] using this
      have hW1 := h1.out.later hB.out
      have hW2 := h2.out.later hB.out
      obtain ⟨p1, o1, rfl, u0, u1, u2, u3, u4, u5⟩ := hW1.at hx1
      have hgl : s'.gs.length ≤ 1000000 := hg _ (List.mem_of_getElem? hx1)
      have hm1 := hW1.2 _ (List.mem_of_getElem? hx1)
      have hm2 := hW2.2 _ (List.mem_of_getElem? hx2)
      dsimp only at hm1 hm2
      have hsm := Lib.hid (fun X (hX : Below wr.heap.size wr X) => same38 s' g1 g2 X (hm1.later hX) (hm2.later hX) hgl)
      obtain ⟨f1, m1, rfl, -⟩ := hm1
      obtain ⟨f2, m2, rfl, -⟩ := hm2
      obtain ⟨gn, hgn⟩ : ∃ gn, s'.gs.length = gn := ⟨_, rfl⟩
      rw [hgn] at hsm hx1 hx2 u3
      have hb1 := kept_new wr (.cells #[.int .i64 s'.step, .int .i64 s'.place, .bool s'.strict, .slice f1 gn m1, .int .i64 s'.ahead, .bool s'.last] 41)
      obtain ⟨p2, o2, rfl, t0, t1, t2, t3, t4, t5⟩ := (hW2.later hb1).at hx2
      have hb2 := kept_new (wr.alloc (.cells #[.int .i64 s'.step, .int .i64 s'.place, .bool s'.strict, .slice f1 gn m1, .int .i64 s'.ahead, .bool s'.last] 41)) (.cells #[.int .i64 s'.step, .int .i64 s'.place, .bool s'.strict, .slice f2 gn m2, .int .i64 s'.ahead, .bool s'.last] 41)
      have k1 := (StBox.new wr s' (.slice f1 gn m1)).later hb2
      have k2 := StBox.new (wr.alloc (.cells #[.int .i64 s'.step, .int .i64 s'.place, .bool s'.strict, .slice f1 gn m1, .int .i64 s'.ahead, .bool s'.last] 41)) s' (.slice f2 gn m2)
      rw [World.size_alloc] at k2
      have hb := kept_trans hb1 hb2
      have Q1 := Lib.hid (hsm.out _ hb)
      obtain ⟨v0, v1, v2, v3, v4, v5⟩ := k1.cells
      obtain ⟨w0, w1, w2, w3', w4, w5⟩ := k2.cells
      have hbb := Lib.hid (kept_trans hB.out hb)
      clear hb1 hb2 hb hsm hW1 hW2 hx1 hx2 k1 k2 hgn hgl
      go_wp2_with ((with_reducible refine Q1.out.mono ?_); rintro e w9 ⟨rfl, hb9⟩; have hB9 := Lib.hid (kept_trans hbb.out hb9))
      exact ⟨⟨i + 1, by omega, by go_num, hB9⟩, by simp [intOf]; omega⟩
    · have hlti : ¬ (i : Int) < n := by omega
      go_wp2_with fail
      go_ret
      exact ⟨rfl, hB.out⟩
set_option maxHeartbeats 1000000 in
theorem same_true {v1 v2 av1 av2 : Value} {L1 L2 : List (St × Value)} {A : List Int} (win : Int) (hL : L1.length ≤ 1000000) (hA : A.length ≤ 1000000) (hg : ∀ x ∈ L1, x.1.gs.length ≤ 1000000) (he : L2.map (·.1) = L1.map (·.1)) (w : World)
    (h1 : StsL w v1 L1) (h2 : StsL w v2 L2) (k1 : NmsAt w av1 A) (k2 : NmsAt w av2 A) :
    Calls Tryz.prog 20 #[auV v1 av1 win, auV v2 av2 win] w fun e w' => e = .returned (.bool true) ∧ Below w.heap.size w w' := by
  have hr := Lib.hid (fun X (hX : Below w.heap.size w X) => equal_V (k1.later hX) (k2.later hX) hA)
  have hs := Lib.hid (fun X (hX : Below w.heap.size w X) => equal37 hL hg he X (h1.later hX) (h2.later hX))
  have hl2 : L2.length = L1.length := by have := congrArg List.length he; simpa using this
  obtain ⟨a1, c1, rfl⟩ := h1.lit rfl
  obtain ⟨a2, c2, rfl⟩ := h2.lit hl2
  obtain ⟨b1, d1, rfl, -⟩ := k1
  obtain ⟨b2, d2, rfl, -⟩ := k2
  generalize A.length = na at *
  generalize hn : L1.length = n at *
  have hb1 := kept_new w (.cells #[.slice a1 n c1, .slice b1 na d1, .int .i64 win] 30)
  have hb2 := kept_new (w.alloc (.cells #[.slice a1 n c1, .slice b1 na d1, .int .i64 win] 30)) (.cells #[.slice a2 n c2, .slice b2 na d2, .int .i64 win] 30)
  have hp1 := (AuBox.new w (.slice a1 n c1) (.slice b1 na d1) win).later hb2
  have hp2 := AuBox.new (w.alloc (.cells #[.slice a1 n c1, .slice b1 na d1, .int .i64 win] 30)) (.slice a2 n c2) (.slice b2 na d2) win
  rw [World.size_alloc] at hp2
  have hb := kept_trans hb1 hb2
  have x1 := hp1.c1
  have x2 := hp1.c2
  have y1 := hp2.c1
  have y2 := hp2.c2
  have Q1 := Lib.hid (hr.out _ hb)
  replace hp1 := Lib.hid hp1
  replace hp2 := Lib.hid hp2
  replace hb := Lib.hid hb
  clear hb1 hb2 hr h1 h2 he hg hn hl2
  go_enter Tryz.func20, Tryz.ntmps20
  go_wp2_with (first
    | ((with_reducible refine Q1.out.mono ?_); rintro e w3 ⟨rfl, hb3⟩; have hB3 := Lib.hid (kept_trans hb.out hb3); have z0 := (hp1.out.later hb3).c0; have z1 := (hp2.out.later hb3).c0; have Q2 := Lib.hid (hs.out _ hB3.out))
    | ((with_reducible refine Q2.out.mono ?_); rintro e w4 ⟨rfl, hb4⟩; have hB4 := Lib.hid (kept_trans hB3.out hb4)))
  go_ret
  exact ⟨rfl, hB4.out⟩
theorem same_win (v1 v2 av1 av2 : Value) (p q : Int) (hne : p ≠ q) (hv1 : ∃ a c m, v1 = .slice a m c) (hv2 : ∃ a c m, v2 = .slice a m c) (hv3 : ∃ a c m, av1 = .slice a m c) (hv4 : ∃ a c m, av2 = .slice a m c) (w : World) :
    Calls Tryz.prog 20 #[auV v1 av1 p, auV v2 av2 q] w fun e w' => e = .returned (.bool false) ∧ Below w.heap.size w w' := by
  obtain ⟨a1, c1, n, rfl⟩ := hv1
  obtain ⟨a2, c2, n2, rfl⟩ := hv2
  obtain ⟨b1, d1, na, rfl⟩ := hv3
  obtain ⟨b2, d2, na2, rfl⟩ := hv4
  have hb1 := kept_new w (.cells #[.slice a1 n c1, .slice b1 na d1, .int .i64 p] 30)
  have hb2 := kept_new (w.alloc (.cells #[.slice a1 n c1, .slice b1 na d1, .int .i64 p] 30)) (.cells #[.slice a2 n2 c2, .slice b2 na2 d2, .int .i64 q] 30)
  have hb := Lib.hid (kept_trans hb1 hb2)
  have e : (p == q) = false := by simpa using hne
  replace hne := Lib.hid hne
  clear hb1 hb2
  go_enter Tryz.func20, Tryz.ntmps20
  go_wp2_with fail
  go_ret
  exact ⟨rfl, hb.out⟩
end Go.Proofs.YtccmnngeibpcmaaGreat.Tree
/- nfa.Own. -/
namespace Go.Proofs.YtccmnngeibpcmaaGreat.Tree
open Go.ChangeShapes Go.WideShapes Go.ChangeAt Go.RowKit
set_option linter.unusedVariables false
set_option linter.unusedSimpArgs false
set_option maxRecDepth 100000
attribute [local go_sem] Oper.semAt_some
theorem sts_one {W : World} {L : List (St × Value)} (h : ∀ x ∈ L, NmsAt W x.2 x.1.gs) : ∀ u ∈ stsCells L, u.oneCell' = true := by
  intro u hu
  unfold stsCells at hu
  obtain ⟨x, hx, hu⟩ := List.mem_flatMap.1 hu
  obtain ⟨a, c, e, -⟩ := h x hx
  rw [e] at hu
  simp at hu
  rcases hu with rfl | rfl | rfl | rfl | rfl | rfl <;> simp [Value.oneCell']
theorem stsCells_set {L : List (St × Value)} {i : Nat} {s : St} {u : Value} (h : L[i]? = some (s, u)) (v : Value) : stsCells (L.set i (s, v)) = (stsCells L).set (i * 6 + 3) v := by
  unfold stsCells
  induction L generalizing i with
  | nil => simp at h
  | cons x r ih =>
    cases i with
    | zero => simp at h; subst h; rfl
    | succ i =>
      have e : (i + 1) * 6 + 3 = [Value.int .i64 x.1.step, .int .i64 x.1.place, .bool x.1.strict, x.2, .int .i64 x.1.ahead, .bool x.1.last].length + (i * 6 + 3) := by simp; omega
      rw [List.set_cons_succ, List.flatMap_cons, List.flatMap_cons, e, List.set_append_right _ _ (by omega), ih (by simpa using h)]
      congr 2
      omega
def OwnNms (W : World) (B : Nat) (v : Value) (xs : List Int) : Prop := W.ownsRow B 3 1 v xs.length (ints xs)
theorem row_state {W : World} {base g n cap : Nat} {M : List (St × Value)} (h : W.ownsRow base 41 6 (.slice (some ⟨g, 0, none⟩) n cap) n (stsCells M)) {i : Nat} {s : St} {u : Value} (hi : i < n) (hx : M[i]? = some (s, u)) :
    W.cell? ⟨g, i * 6, none⟩ = some (.int .i64 s.step) ∧ W.cell? ⟨g, i * 6 + 1, none⟩ = some (.int .i64 s.place) ∧ W.cell? ⟨g, i * 6 + 2, none⟩ = some (.bool s.strict) ∧
      W.cell? ⟨g, i * 6 + 3, none⟩ = some u ∧ W.cell? ⟨g, i * 6 + 4, none⟩ = some (.int .i64 s.ahead) ∧ W.cell? ⟨g, i * 6 + 5, none⟩ = some (.bool s.last) ∧ W.frozen? ⟨g, i * 6 + 3, none⟩ = false := by
  have H := fun j hj => flat_at 6 (fun x : St × Value => [Value.int .i64 x.1.step, .int .i64 x.1.place, .bool x.1.strict, x.2, .int .i64 x.1.ahead, .bool x.1.last]) (fun _ => rfl) M i _ hx j hj
  have C := fun j (hj : j < 6) => (h.cellAt (i * 6 + j) (by omega)).trans (H j hj)
  exact ⟨C 0 (by omega), C 1 (by omega), C 2 (by omega), C 3 (by omega), C 4 (by omega), C 5 (by omega), h.frozenAt _⟩
def OnA (w : World) (L : List (St × Value)) (v av : Value) (win : Int) (i : Nat) (W : World) : Prop :=
  AuBox w.heap.size v av win W ∧ AuBox (w.heap.size + 1) (.slice none 0 0) (.slice none 0 0) 0 W ∧ Below w.heap.size w W ∧
    ∃ M : List (St × Value), W.ownsRow w.heap.size 41 6 v L.length (stsCells M) ∧ M.map (·.1) = L.map (·.1) ∧ (∀ j x, j < i → M[j]? = some x → OwnNms W w.heap.size x.2 x.1.gs) ∧ ∀ j, i ≤ j → M[j]? = L[j]?
theorem OnA.next {w W W2 : World} {L M : List (St × Value)} {av : Value} {win : Int} {i g cap : Nat} {s : St} {u v2 : Value}
    (hp : AuBox w.heap.size (.slice (some ⟨g, 0, none⟩) L.length cap) av win W) (hz : AuBox (w.heap.size + 1) (.slice none 0 0) (.slice none 0 0) 0 W) (hB : Below w.heap.size w W)
    (hr : W.ownsRow w.heap.size 41 6 (.slice (some ⟨g, 0, none⟩) L.length cap) L.length (stsCells M)) (hM : M.map (·.1) = L.map (·.1)) (hold : ∀ j x, j < i → M[j]? = some x → OwnNms W w.heap.size x.2 x.1.gs) (hnew : ∀ j, i ≤ j → M[j]? = L[j]?)
    (hx : M[i]? = some (s, u)) (hg : W.grownBy W2 none) (hown : OwnNms W2 w.heap.size v2 s.gs) : OnA w L (.slice (some ⟨g, 0, none⟩) L.length cap) av win (i + 1) (W2.setCell ⟨g, i * 6 + 3, none⟩ v2) := by
  have hr2 := row_kept hr hg (fun r e => by cases e)
  obtain ⟨st1, st2⟩ := hr2.stored (i * 6 + 3) v2
  have hgt := own_is hr2
  have hgb : ∀ t, t ≠ 41 → ∀ r, some g = some r → ∃ o : Obj, W2.heap[r]? = some o ∧ ∀ cs fz, o ≠ .cells cs t fz := fun t ht r e => hgt t ht r (by simpa [Value.ownBlock] using e)
  have hp2 : AuBox w.heap.size (.slice (some ⟨g, 0, none⟩) L.length cap) av win W2 := hp.later (below_grown hg)
  have hz2 := hz.later (below_grown hg)
  have ne1 : w.heap.size ≠ g := by
    rintro rfl
    obtain ⟨o, ho, hc⟩ := hgb 30 (by decide) _ rfl
    rw [show W2.heap[w.heap.size]? = _ from hp2] at ho; cases ho; exact hc _ _ rfl
  have ne2 : w.heap.size + 1 ≠ g := by
    rintro rfl
    obtain ⟨o, ho, hc⟩ := hgb 30 (by decide) _ rfl
    rw [show W2.heap[w.heap.size + 1]? = _ from hz2] at ho; cases ho; exact hc _ _ rfl
  have hge : w.heap.size ≤ g := by
    rcases hr.2 with ⟨e, _⟩ | ⟨g', cap', cur, e, hb, _⟩
    · cases e
    · cases e; exact hb
  refine ⟨(Below.heap_setCell W2 ⟨g, i * 6 + 3, none⟩ v2 _ ne1).trans hp2, (Below.heap_setCell W2 ⟨g, i * 6 + 3, none⟩ v2 _ ne2).trans hz2, (hB.trans ((below_grown hg).mono hB.size)).setCell (p := ⟨g, i * 6 + 3, none⟩) hge v2, M.set i (s, v2), ?_, ?_, ?_, ?_⟩
  · rw [stsCells_set hx]; exact st1
  · rw [List.map_set, hM]
    have : (L.map (·.1))[i]? = some s := by rw [← hM, List.getElem?_map, hx]; rfl
    obtain ⟨hlt, he⟩ := List.getElem?_eq_some_iff.1 this
    apply List.ext_getElem?
    intro j
    rw [List.getElem?_set]
    split
    · rename_i e; subst e; rw [this]
    · rfl
  · intro j x hj hjx
    rw [List.getElem?_set] at hjx
    split at hjx
    · rename_i e
      subst e
      split at hjx
      · cases hjx
        exact row_kept hown st2 (hgb 3 (by decide))
      · cases hjx
    · exact row_kept (row_kept (hold j x (by omega) hjx) hg (fun r e => by cases e)) st2 (hgb 3 (by decide))
  · intro j hj
    rw [List.getElem?_set_ne (by omega)]
    exact hnew j (by omega)
set_option maxHeartbeats 4000000 in
theorem ownA_V {v av : Value} {L : List (St × Value)} {A : List Int} (win : Int) (hL : L.length ≤ 1000000) (hA : A.length ≤ 1000000) (hgl : ∀ x ∈ L, x.1.gs.length ≤ 1000000) (w : World) (h : StsL w v L) (ha : NmsAt w av A) :
    Calls Tryz.prog 21 #[auV v av win] w fun e w' => ∃ v' av' L', e = .returned (auV v' av' win) ∧ StsL w' v' L' ∧ L'.map (·.1) = L.map (·.1) ∧ NmsAt w' av' A ∧ Below w.heap.size w w' := by
  obtain ⟨n, hl⟩ : ∃ n, L.length = n := ⟨_, rfl⟩
  obtain ⟨a, c, rfl⟩ := h.lit hl
  obtain ⟨aa, ca, rfl, hca⟩ := ha
  obtain ⟨na, hna⟩ : ∃ n, A.length = n := ⟨_, rfl⟩
  rw [hl] at hL
  rw [hna] at hA ⊢
  have hb2 := below_two w (.cells #[.slice a n c, .slice aa na ca, .int .i64 win] 30) (.cells #[.slice none 0 0, .slice none 0 0, .int .i64 0] 30)
  have hp0 : AuBox w.heap.size (.slice a n c) (.slice aa na ca) win ((w.alloc (.cells #[.slice a n c, .slice aa na ca, .int .i64 win] 30)).alloc (.cells #[.slice none 0 0, .slice none 0 0, .int .i64 0] 30)) := (AuBox.new w _ _ _).later (kept_new _ _)
  have hz : AuBox (w.heap.size + 1) (.slice none 0 0) (.slice none 0 0) 0 ((w.alloc (.cells #[.slice a n c, .slice aa na ca, .int .i64 win] 30)).alloc (.cells #[.slice none 0 0, .slice none 0 0, .int .i64 0] 30)) := new_two w _ _
  obtain ⟨a0, c0', e0, hcs0⟩ := (h.later hb2).1
  rw [hl] at e0
  obtain ⟨rfl, rfl⟩ := slice_eq e0
  clear e0
  have k0 := hp0.c0
  have hone := sts_one h.2
  have hlen6 := stsCells_len L
  rw [hl] at hlen6
  obtain ⟨i0, hi, hz0, hz1, hz2⟩ := info_parts Tryz.info41
  replace hi := Lib.hid hi
  have hsz0 : ((w.alloc (.cells #[.slice a n c, .slice aa na ca, .int .i64 win] 30)).alloc (.cells #[.slice none 0 0, .slice none 0 0, .int .i64 0] 30)).heap.size = w.heap.size + 2 := by simp
  replace hone := Lib.hid hone
  replace hna := Lib.hid hna
  go_enter Tryz.func21, Tryz.ntmps21
  generalize hW0 : ((w.alloc (.cells #[.slice a n c, .slice aa na ca, .int .i64 win] 30)).alloc (.cells #[.slice none 0 0, .slice none 0 0, .int .i64 0] 30)) = W0 at *
  have hk0f : W0.frozen? ⟨w.heap.size, 0, none⟩ = false := au_f hp0 0
  go_wp2_with (at_builtin; refine wpList_append_cells rfl _ _ 27 rfl w.heap.size 41 i0 _ 6 64 Tryz.underlying27 hi.out hz0 hz1 hz2 rfl (by decide) (.slice none 0 0) 0 [] rfl (World.ownsRow_nil _ _ _ _) a n c (stsCells L) rfl hlen6 hcs0 hone.out (by unfold maxLen; omega) (by omega) (by rw [hsz0]; omega) ?_; intro v' w1 hown' hgrow; have k1 := keepC hgrow k0; have f1 := keepF hgrow k0 hk0f; rw [Nat.zero_add, List.nil_append] at hown'; obtain ⟨a5, c5, rfl, -⟩ := cells_of_row hown')
  have hgrow' := below_grown hgrow
  have hOn : OnA w L (.slice a5 n c5) (.slice aa na ca) win 0 (w1.setCell ⟨w.heap.size, 0, none⟩ (.slice a5 n c5)) := by
    have hp1 := hp0.later hgrow'
    have hz1 := hz.later hgrow'
    refine ⟨au_set hp1 _, block_far hz1 (by omega) _ _, (hb2.trans (hgrow'.mono hb2.size)).setCell (by simp) _, L, ?_, rfl, fun j x hj => by omega, fun j _ => rfl⟩
    rw [hl]
    exact row_kept hown' (grownBy_setCell_any w1 w.heap.size 0 _) (block_is hp1 41 (by decide))
  clear hown' hgrow hgrow' k1 f1 k0 hk0f hp0 hz hcs0 hone hsz0 hi hz0 hz1 hz2 hlen6 hb2
  obtain ⟨W1, hW1⟩ : ∃ W1, w1.setCell ⟨w.heap.size, 0, none⟩ (.slice a5 n c5) = W1 := ⟨_, rfl⟩
  rw [hW1] at hOn ⊢
  clear hW1 hW0
  obtain ⟨i0, hi, hz0, hz1, hz2⟩ := info_parts Tryz.info3
  replace hi := Lib.hid hi
  replace h := Lib.hid h
  replace hgl := Lib.hid hgl
  replace hca := Lib.hid hca
  go_loopw [12] (fun t wr => ∃ i : Nat, i ≤ n ∧ t = .int .i64 i ∧ Hid (OnA w L (.slice a5 n c5) (.slice aa na ca) win i wr)) (fun t _ => n - (intOf t).toNat)
  case atStart => exact ⟨0, Nat.zero_le _, rfl, hOn⟩
  case round =>
    clear hOn
    obtain ⟨i, hi', rfl, hOn⟩ := hrel
    obtain ⟨hp, hz, hB, M, hr, hM, hold, hnew⟩ := hOn.out
    by_cases hlt : i < n
    · have hlti : (i : Int) < n := by omega
      obtain ⟨⟨s, u⟩, hx⟩ : ∃ y, L[i]? = some y := ⟨_, List.getElem?_eq_getElem (by omega)⟩
      have hxM : M[i]? = some (s, u) := (hnew i (Nat.le_refl _)).trans hx
      have hcu := h.out.2 _ (List.mem_of_getElem? hx)
      have hm1 := hgl.out _ (List.mem_of_getElem? hx)
      dsimp only at hcu hm1
      obtain ⟨m, hm⟩ : ∃ l, s.gs.length = l := ⟨_, rfl⟩
      have hca2 := hcu
      obtain ⟨a2, c2, rfl, -⟩ := hcu
      rw [hm] at hm1 hca2 hx hxM
      obtain ⟨g, rfl⟩ : ∃ g, a5 = some ⟨g, 0, none⟩ := by
        rcases hr.2 with ⟨e, h0⟩ | ⟨g, cap, cur, e, _⟩
        · omega
        · cases e; exact ⟨g, rfl⟩
      rw [hl] at hr
      obtain ⟨z0, z1, z2, z3, z4, z5, z6⟩ := row_state hr hlt hxM
      have hk1 := kept_new wr (.cells #[.int .i64 s.step, .int .i64 s.place, .bool s.strict, .slice a2 m c2, .int .i64 s.ahead, .bool s.last] 41)
      have hsp := StBox.new wr s (.slice a2 m c2)
      have hp' := hp.later hk1
      have y0 := hp'.c0
      have y5 := hsp.cells.2.2.2.1
      have x5 := bcell hk1 (World.block_lt_of_cell? wr _ z3) z3
      have x6 : (wr.alloc (.cells #[.int .i64 s.step, .int .i64 s.place, .bool s.strict, .slice a2 m c2, .int .i64 s.ahead, .bool s.last] 41)).frozen? ⟨g, i * 6 + 3, none⟩ = false := ((World.grownBy_alloc wr _ none).frozen_far _ (World.block_lt_of_cell? wr _ z3) (by simp)).trans z6
      have hcn := hca2.later (hB.trans (hk1.mono hB.size))
      have hcone := Lib.hid (ints_one s.gs)
      have hc9 : (ints s.gs).length = m * 1 := by unfold ints; rw [List.length_map, hm, Nat.mul_one]
      have hwsz : w.heap.size ≤ (wr.alloc (.cells #[.int .i64 s.step, .int .i64 s.place, .bool s.strict, .slice a2 m c2, .int .i64 s.ahead, .bool s.last] 41)).heap.size := by have := hB.size; simp; omega
      obtain ⟨a2', c2', e2, hcc⟩ := hcn
      rw [hm] at e2
      obtain ⟨rfl, rfl⟩ := slice_eq e2
      have HN : Hid (∀ w1 v2, (wr.alloc (.cells #[.int .i64 s.step, .int .i64 s.place, .bool s.strict, .slice a2 m c2, .int .i64 s.ahead, .bool s.last] 41)).drew.grownBy w1 none → OwnNms w1 w.heap.size v2 s.gs → OnA w L (.slice (some ⟨g, 0, none⟩) n c5) (.slice aa na ca) win (i + 1) (w1.setCell ⟨g, i * 6 + 3, none⟩ v2)) := by
        show ∀ _, _
        intro w1 v2 hg hown
        have hg2 : wr.grownBy w1 none := (World.grownBy_alloc wr _ none).trans (show (wr.alloc (.cells #[.int .i64 s.step, .int .i64 s.place, .bool s.strict, .slice a2 m c2, .int .i64 s.ahead, .bool s.last] 41)).grownBy w1 none from ⟨hg.os, hg.tape, hg.output, hg.size, hg.block⟩)
        subst hl
        exact OnA.next hp hz hB hr hM hold hnew hxM hg2 hown
      clear e2 hx hnew hold hM hp' hsp hxM hca2
      go_wp2_with fail
      generalize (wr.alloc (.cells #[.int .i64 s.step, .int .i64 s.place, .bool s.strict, .slice a2 m c2, .int .i64 s.ahead, .bool s.last] 41)) = W2 at *
      generalize hS2 : wr.heap.size = S2 at *
      clear hS2 hz hB hr z0 z1 z2 z3 z4 z5 z6
      have d0 : W2.drew.cell? ⟨w.heap.size, 0, none⟩ = some (.slice (some ⟨g, 0, none⟩) n c5) := y0
      have d5 : W2.drew.cell? ⟨S2, 3, none⟩ = some (.slice a2 m c2) := y5
      have d6 : W2.drew.cell? ⟨g, i * 6 + 3, none⟩ = some (.slice a2 m c2) := x5
      have d7 : W2.drew.frozen? ⟨g, i * 6 + 3, none⟩ = false := x6
      have dC : CellsAt W2.drew a2 (ints s.gs) := hcc
      go_region_law ((refine step_append_cells (by rfl) _ _ 28 (by rfl) w.heap.size 3 i0 _ 1 8 Tryz.underlying28 hi.out hz0 hz1 hz2 rfl (by decide) (.slice none 0 0) 0 [] (by rfl) (World.ownsRow_nil _ _ _ _) a2 m c2 (ints s.gs) (by rfl) hc9 dC hcone.out (by unfold maxLen; omega) (by omega) hwsz ?_; intro v' w1 hown' hgrow; rw [Nat.zero_add, List.nil_append] at hown'; obtain ⟨a6, c6, rfl, -⟩ := cells_of_row hown'; have r0 := keepC hgrow d0; have r6 := keepC hgrow d6; have r7 := keepF hgrow d6 d7))
      all_goals
        have hfin := Lib.hid (HN.out _ _ hgrow (by unfold OwnNms; rw [hm]; exact hown'))
        clear hgrow hown' r0 r6 r7 d0 d5 d6 d7 dC hcc x5 x6 y0 y5 HN hk1
        go_wp2
        go_roundw
        case rel => exact ⟨i + 1, by omega, by go_num, hfin⟩
        case measure => simp [intOf]; omega
    · obtain rfl : i = n := by omega
      have hlti : ¬ (i : Int) < i := by omega
      have hml : M.length = L.length := by have := congrArg List.length hM; simpa using this
      have hall : ∀ x ∈ M, OwnNms wr w.heap.size x.2 x.1.gs := fun x hx => by
        obtain ⟨j, hj⟩ := List.mem_iff_getElem?.1 hx
        have hjl := (List.getElem?_eq_some_iff.1 hj).1
        exact hold j x (by omega) hj
      have hcA := Lib.hid (hca.out.later hB)
      have y0 := hp.c0
      have y1 := hp.c1
      have f1 := au_f hp 1
      have hOi : OwnSts wr w.heap.size (.slice a5 i c5) M := ⟨by rw [hml]; exact hr, hall⟩
      have hB' := Lib.hid hB
      have hcl : (ints A).length = na * 1 := by unfold ints; rw [List.length_map, hna.out, Nat.mul_one]
      clear hold hnew hr hall
      go_upto_region 8 with (at_builtin; refine wpList_append_cells rfl _ _ 28 rfl (w.heap.size + 2) 3 i0 _ 1 8 Tryz.underlying28 hi.out hz0 hz1 hz2 rfl (by decide) (.slice none 0 0) 0 [] rfl (World.ownsRow_nil _ _ _ _) aa na ca (ints A) rfl hcl hcA.out (ints_one A) (by unfold maxLen; omega) (by omega) (by have := (Array.getElem?_eq_some_iff.1 hz).1; omega) ?_; intro v' w1 hown' hgrow; have k1 := keepC hgrow y1; have g1 := keepF hgrow y1 f1; rw [Nat.zero_add, List.nil_append] at hown'; obtain ⟨a6, c6, rfl, -⟩ := cells_of_row hown')
      have hgb := below_grown hgrow
      have hA5 := au_set1 (hp.later hgb) (.slice a6 na c6)
      have hz5 : AuBox (w.heap.size + 1) (.slice none 0 0) (.slice none 0 0) 0 (w1.setCell ⟨w.heap.size, 1, none⟩ (.slice a6 na c6)) := block_far (hz.later hgb) (by omega) _ _
      have hset := grownBy_setCell_any w1 w.heap.size 1 (.slice a6 na c6)
      have hpb : w1.heap[w.heap.size]? = _ := hp.later hgb
      have hO5 : OwnSts (w1.setCell ⟨w.heap.size, 1, none⟩ (.slice a6 na c6)) w.heap.size (.slice a5 i c5) M := ⟨row_kept (row_later hOi.1 hgb) hset (block_is hpb 41 (by decide)), fun x hx => row_kept (row_later (hOi.2 x hx) hgb) hset (block_is hpb 3 (by decide))⟩
      have ho5 := row_kept hown' hset (block_is hpb 3 (by decide))
      have hB5 := (kept_trans hB'.out hgb).setCell (p := ⟨w.heap.size, 1, none⟩) (by simp) (.slice a6 na c6)
      clear hgrow hown' k1 g1 hgb hset hpb hOi hp hz y0 y1 f1 hB hcA hOn
      generalize w1.setCell ⟨w.heap.size, 1, none⟩ (.slice a6 na c6) = W6 at *
      have y0 := hA5.c0
      have y1 := hA5.c1
      have y2 := hA5.c2
      have t0 := hz5.c0
      have t1 := hz5.c1
      have t2 := hz5.c2
      have g0 := au_f hz5 0
      have g1 := au_f hz5 1
      have g2 := au_f hz5 2
      have hA7 := Lib.hid (au_set2 (au_set1 (au_set hz5 (.slice a5 i c5)) (.slice a6 na c6)) win)
      have keep : ∀ {e s n : Nat} {v : Value} {xs : List Value} {B : Nat}, e ≠ 30 → W6.ownsRow B e s v n xs → (((W6.setCell ⟨w.heap.size + 1, 0, none⟩ (.slice a5 i c5)).setCell ⟨w.heap.size + 1, 1, none⟩ (.slice a6 na c6)).setCell ⟨w.heap.size + 1, 2, none⟩ (.int .i64 win)).ownsRow B e s v n xs := fun he hh =>
        row_kept (row_kept (row_kept hh (grownBy_setCell_any _ _ _ _) (block_is hz5 _ he)) (grownBy_setCell_any _ _ _ _) (block_is (au_set hz5 _) _ he)) (grownBy_setCell_any _ _ _ _) (block_is (au_set1 (au_set hz5 _) _) _ he)
      have hO7 : OwnSts (((W6.setCell ⟨w.heap.size + 1, 0, none⟩ (.slice a5 i c5)).setCell ⟨w.heap.size + 1, 1, none⟩ (.slice a6 na c6)).setCell ⟨w.heap.size + 1, 2, none⟩ (.int .i64 win)) w.heap.size (.slice a5 i c5) M := ⟨keep (by decide) hO5.1, fun x hx => keep (by decide) (hO5.2 x hx)⟩
      have ho7 := keep (by decide) ho5
      have hB7 := Lib.hid (((hB5.setCell (p := ⟨w.heap.size + 1, 0, none⟩) (by simp) (.slice a5 i c5)).setCell (p := ⟨w.heap.size + 1, 1, none⟩) (by simp) (.slice a6 na c6)).setCell (p := ⟨w.heap.size + 1, 2, none⟩) (by simp) (.int .i64 win))
      replace hO7 := Lib.hid hO7
      replace ho7 := Lib.hid ho7
      clear keep hO5 ho5 hB5 hA5 hz5
      go_wp2
      exact bodyPost_ret (v := auV (.slice a5 i c5) (.slice a6 na c6) win) (results_cell_row rfl _ _ (w.heap.size + 1) 30 _ (0, 0) _ rfl hA7.out Tryz.underlying30 rfl (by kernel_rfl)) rfl ⟨_, _, rfl, M, hO7.out.sts, hM, by have h9 := nms_own (xs := A) ho7.out; exact h9, hB7.out⟩
end Go.Proofs.YtccmnngeibpcmaaGreat.Tree
