/-
  A pattern that may be, with one thing of it out of its rule: what Check tells of it.
-/
import Derived.Test.YtmgkamljlgmmeaaCK
namespace Go.Proofs.Ytmgkamljlgmmeaa.Tree
open Go.ChangeShapes Go.WideShapes Go.ChangeAt Go.RowKit
set_option linter.unusedVariables false
set_option linter.unusedSimpArgs false
/-- A pattern that may be. -/
def MayP (ss : List Sp) (win : Int) : Prop := rightP ss win = true ∧ ∀ k, k < 7 → KeptAll ss win k
theorem may_len {ss : List Sp} {win : Int} (h : MayP ss win) : 1 ≤ ss.length ∧ ss.length ≤ 6 := by
  obtain ⟨h1, -, -, -⟩ := rightP_parts h.1
  have := h.2 0 (by omega) 0 _ (stepA_in (by omega))
  simp only [ruleB, Bool.and_eq_true, decide_eq_true_eq] at this
  exact ⟨h1, this.1⟩
theorem may_win {ss : List Sp} {win : Int} (h : MayP ss win) : win ≤ 1073741824 := by
  have h1 := may_len h
  have := h.2 0 (by omega) 0 _ (stepA_in (by omega))
  simp only [ruleB, Bool.and_eq_true, decide_eq_true_eq] at this
  exact this.2
theorem may_first {ss : List Sp} {win : Int} (h : MayP ss win) {s : Sp} (hs : ss[0]? = some s) : s.neg = false ∧ s.strict = false := by
  have := h.2 1 (by omega) 0 _ hs
  simp only [ruleB, Bool.and_eq_true, Bool.or_eq_true, Bool.not_eq_true', decide_eq_true_eq, Nat.lt_irrefl, false_or] at this
  exact this
theorem stepA_set (ss : List Sp) {j : Nat} {s' : Sp} (hj : j < ss.length) (i : Nat) : stepA (ss.set j s') i = if i = j then s' else stepA ss i := by
  unfold stepA
  by_cases e : i = j
  · subst e; rw [List.getElem?_set_self hj, if_pos rfl]; rfl
  · rw [List.getElem?_set_ne (fun h => e h.symm), if_neg e]
theorem rule4_like {ss ss' : List Sp} {i : Nat} {s : Sp} (h : ∀ k, k ≤ i → (stepA ss' k).neg = (stepA ss k).neg) : rule4 ss' i s = rule4 ss i s := by
  unfold rule4 follows
  rw [h i (Nat.le_refl _), h (i - 1) (by omega)]
theorem askBad_like {ss ss' : List Sp} {i : Nat} (h : ∀ k, (stepA ss' k).neg = (stepA ss k).neg ∧ (stepA ss' k).max = (stepA ss k).max) (x : Int) : askBad ss' i x = askBad ss i x := by
  unfold askBad
  rw [(h _).1, (h _).2]
theorem asks_like {ss ss' : List Sp} {i : Nat} {s : Sp} (h : ∀ k, (stepA ss' k).neg = (stepA ss k).neg ∧ (stepA ss' k).max = (stepA ss k).max) : asksP ss' i s = asksP ss i s := by
  unfold asksP
  congr 1
  funext x
  rw [askBad_like h]
theorem right_set {ss : List Sp} {win : Int} {j : Nat} {s' : Sp} (h : rightP ss win = true) (hs : rightS s' = true) : rightP (ss.set j s') win = true := by
  obtain ⟨h1, h2, h3, h4⟩ := rightP_parts h
  refine rightP_mk (by rw [List.length_set]; exact h1) (by rw [List.length_set]; exact h2) h3 fun t ht => ?_
  rcases List.mem_or_eq_of_mem_set ht with ht | rfl
  · exact h4 t ht
  · exact hs
theorem right_of {ss : List Sp} {win : Int} (h : rightP ss win = true) {i : Nat} {s : Sp} (hs : ss[i]? = some s) : rightS s = true := (rightP_parts h).2.2.2 s (List.mem_of_getElem? hs)
theorem one1 {ss : List Sp} {win t : Int} (h : MayP ss win) (h1 : 1 ≤ t) (h2 : t ≤ 1000) : checkT ss (1073741824 + t) = (1, 0, 110) := by
  obtain ⟨a1, a2, a3, a4⟩ := rightP_parts h.1
  have hr : rightP ss (1073741824 + t) = true := rightP_mk a1 a2 (by unfold nbr; simp; omega) a4
  have := checkT_bad (k := 0) (i := 0) (s := stepA ss 0) hr (by omega) (fun j hj => by omega) (stepA_in (by omega)) (by simp [ruleB]; intro _; omega) (fun j t hj => by omega)
  exact this
theorem one2 {ss : List Sp} {win : Int} (h : MayP ss win) {s : Sp} (hs : ss[0]? = some s) : checkT (ss.set 0 { s with strict := true }) win = (2, 0, 110) := by
  have hl := may_len h
  have hrs := right_of h.1 hs
  have hr := right_set (j := 0) (s' := { s with strict := true }) h.1 (by unfold rightS at hrs ⊢; exact hrs)
  have := checkT_bad (k := 1) (i := 0) (s := { s with strict := true }) hr (by omega) (fun j hj => by
    obtain rfl : j = 0 := by omega
    intro i t ht
    simp only [ruleB, List.length_set]
    have := h.2 0 (by omega) 0 _ hs
    exact this) (List.getElem?_set_self (by omega)) (by simp [ruleB]) (fun j t hj => by omega)
  exact this
theorem kept_set {ss : List Sp} {j : Nat} {s' : Sp} {i : Nat} {t : Sp} (hj : j < ss.length) (h : (ss.set j s')[i]? = some t) : (i = j ∧ t = s') ∨ (i ≠ j ∧ ss[i]? = some t) := by
  by_cases e : i = j
  · subst e
    rw [List.getElem?_set_self hj] at h
    exact .inl ⟨rfl, (Option.some.inj h).symm⟩
  · rw [List.getElem?_set_ne (fun h => e h.symm)] at h
    exact .inr ⟨e, h⟩
theorem keep0 {ss ss' : List Sp} {win : Int} (h : MayP ss win) (hl : ss'.length ≤ 6) : KeptAll ss' win 0 := by
  intro i t ht
  simp only [ruleB, Bool.and_eq_true, decide_eq_true_eq]
  exact ⟨hl, may_win h⟩
/-- The first step is still positive, and not strict. -/
theorem keep1 {ss' : List Sp} {win : Int} (h0 : ∀ t, ss'[0]? = some t → t.neg = false ∧ t.strict = false) : KeptAll ss' win 1 := by
  intro i t ht
  simp only [ruleB, Bool.and_eq_true, Bool.or_eq_true, Bool.not_eq_true', decide_eq_true_eq]
  by_cases e : i = 0
  · subst e; exact .inr (h0 t ht)
  · left; omega
theorem one3 {ss : List Sp} {win t : Int} (h : MayP ss win) (h1 : 1 ≤ t) (h2 : t ≤ 1000) {j : Nat} {s : Sp} (hs : ss[j]? = some s) : checkT (ss.set j { s with kind := 5 + t }) win = (3, (j : Int), 110) := by
  have hl := may_len h
  have hj := (List.getElem?_eq_some_iff.1 hs).1
  have hrs := right_of h.1 hs
  have hr := right_set (j := j) (s' := { s with kind := 5 + t }) h.1 (by
    unfold rightS nbr at hrs ⊢
    simp only [Bool.and_eq_true, decide_eq_true_eq] at hrs ⊢
    exact ⟨⟨⟨⟨by omega, by omega⟩, hrs.1.1.2⟩, hrs.1.2⟩, hrs.2⟩)
  have := checkT_bad (k := 2) (i := j) (s := { s with kind := 5 + t }) hr (by omega) (fun k hk => by
    have hk' : k = 0 ∨ k = 1 := by omega
    rcases hk' with rfl | rfl
    · exact keep0 h (by rw [List.length_set]; exact hl.2)
    · refine keep1 fun u hu => ?_
      rcases kept_set hj hu with ⟨e, rfl⟩ | ⟨e, hu⟩
      · subst e; have := may_first h hs; exact this
      · exact may_first h hu) (List.getElem?_set_self hj) (by simp [ruleB]; omega) (fun i u hi hu => by
      rcases kept_set hj hu with ⟨e, rfl⟩ | ⟨e, hu⟩
      · omega
      · exact h.2 2 (by omega) i u hu)
  exact this
theorem one5 {ss : List Sp} {win : Int} (h : MayP ss win) {s : Sp} (hs : ss[0]? = some s) : checkT (ss.set 0 { s with max := 0 }) win = (5, 0, 110) := by
  have hl := may_len h
  have hj := (List.getElem?_eq_some_iff.1 hs).1
  have hrs := right_of h.1 hs
  have hf := may_first h hs
  have hr := right_set (j := 0) (s' := { s with max := 0 }) h.1 (by
    unfold rightS nbr at hrs ⊢
    simp only [Bool.and_eq_true, decide_eq_true_eq] at hrs ⊢
    exact ⟨⟨hrs.1.1, by omega, by omega⟩, hrs.2⟩)
  have hng : ∀ k, (stepA (ss.set 0 { s with max := 0 }) k).neg = (stepA ss k).neg := fun k => by
    rw [stepA_set ss hj]
    split
    · rename_i e; subst e; rw [stepA_of hs]
    · rfl
  have h5 := h.2 4 (by omega) 0 _ hs
  simp only [ruleB, rule5, hf.1, Bool.false_or, Bool.and_eq_true, decide_eq_true_eq] at h5
  have := checkT_bad (k := 4) (i := 0) (s := { s with max := 0 }) hr (by omega) (fun k hk => by
    have hk' : k = 0 ∨ k = 1 ∨ k = 2 ∨ k = 3 := by omega
    rcases hk' with rfl | rfl | rfl | rfl
    · exact keep0 h (by rw [List.length_set]; exact hl.2)
    · refine keep1 fun u hu => ?_
      rcases kept_set hj hu with ⟨e, rfl⟩ | ⟨e, hu⟩
      · exact hf
      · exact may_first h hu
    · intro i u hu
      rcases kept_set hj hu with ⟨e, rfl⟩ | ⟨e, hu⟩
      · exact h.2 2 (by omega) 0 s hs
      · exact h.2 2 (by omega) i u hu
    · intro i u hu
      simp only [ruleB]
      rw [rule4_like (fun k _ => hng k)]
      rcases kept_set hj hu with ⟨e, rfl⟩ | ⟨e, hu⟩
      · subst e; simp [rule4, hf.1, hf.2]
      · exact h.2 3 (by omega) i u hu) (List.getElem?_set_self hj) (by simp [ruleB, rule5, hf.1]; omega) (fun i u hi hu => by omega)
  exact this
theorem most_set {ss : List Sp} {j : Nat} {s s' : Sp} (hs : ss[j]? = some s) (h1 : s'.neg = s.neg) (h2 : s'.max = s.max) : mostP (ss.set j s') = mostP ss := by
  unfold mostP sumF
  rw [List.map_set]
  congr 1
  obtain ⟨hj, e⟩ := List.getElem?_eq_some_iff.1 hs
  have : (if s'.neg = true then (0 : Int) else within s'.max) = (ss.map fun s => if s.neg = true then (0 : Int) else within s.max)[j]'(by simpa using hj) := by simp [e, h1, h2]
  rw [this, List.set_getElem_self]
def cNext (j : Nat) : Cp := ⟨3, ⟨2, 0, (j : Int) + 1, 0⟩, ⟨0, 0, 0, 0⟩⟩
theorem one7 {ss : List Sp} {win : Int} (h : MayP ss win) {j : Nat} {s : Sp} (hs : ss[j]? = some s) : checkT (ss.set j { s with cs := s.cs ++ [cNext j] }) win = (7, (j : Int), 110) := by
  have hl := may_len h
  have hj := (List.getElem?_eq_some_iff.1 hs).1
  have hrs := right_of h.1 hs
  have hr := right_set (j := j) (s' := { s with cs := s.cs ++ [cNext j] }) h.1 (by
    unfold rightS at hrs ⊢
    simp only [Bool.and_eq_true, List.all_eq_true] at hrs ⊢
    refine ⟨hrs.1, fun c hc => ?_⟩
    rcases List.mem_append.1 hc with hc | hc
    · exact hrs.2 c hc
    · obtain rfl := List.mem_singleton.1 hc
      simp [rightC, rightT, cNext]; omega)
  have hng : ∀ k, (stepA (ss.set j { s with cs := s.cs ++ [cNext j] }) k).neg = (stepA ss k).neg ∧ (stepA (ss.set j { s with cs := s.cs ++ [cNext j] }) k).max = (stepA ss k).max := fun k => by
    rw [stepA_set ss hj]
    split
    · rename_i e; subst e; rw [stepA_of hs]; exact ⟨rfl, rfl⟩
    · exact ⟨rfl, rfl⟩
  have := checkT_bad (k := 6) (i := j) (s := { s with cs := s.cs ++ [cNext j] }) hr (by omega) (fun k hk => by
    have hk' : k = 0 ∨ k = 1 ∨ k = 2 ∨ k = 3 ∨ k = 4 ∨ k = 5 := by omega
    rcases hk' with rfl | rfl | rfl | rfl | rfl | rfl
    · exact keep0 h (by rw [List.length_set]; exact hl.2)
    · refine keep1 fun u hu => ?_
      rcases kept_set hj hu with ⟨e, rfl⟩ | ⟨e, hu⟩
      · subst e; have := may_first h hs; exact this
      · exact may_first h hu
    · intro i u hu
      rcases kept_set hj hu with ⟨e, rfl⟩ | ⟨e, hu⟩
      · exact h.2 2 (by omega) j s hs
      · exact h.2 2 (by omega) i u hu
    · intro i u hu
      simp only [ruleB]
      rw [rule4_like (fun k _ => (hng k).1)]
      rcases kept_set hj hu with ⟨e, rfl⟩ | ⟨e, hu⟩
      · subst e; exact h.2 3 (by omega) i s hs
      · exact h.2 3 (by omega) i u hu
    · intro i u hu
      rcases kept_set hj hu with ⟨e, rfl⟩ | ⟨e, hu⟩
      · exact h.2 4 (by omega) j s hs
      · exact h.2 4 (by omega) i u hu
    · intro i u hu
      simp only [ruleB, most_set (s' := { s with cs := s.cs ++ [cNext j] }) hs rfl rfl]
      exact h.2 5 (by omega) j s hs) (List.getElem?_set_self hj) (by
      simp only [ruleB, rule7]
      rw [Bool.and_eq_false_iff]
      right
      unfold asksP
      rw [List.all_eq_false]
      refine ⟨(j : Int) + 1, ?_, by rw [askBad_more (by omega)]; simp⟩
      unfold namesC namesL termsC
      refine List.mem_flatMap.2 ⟨(cNext j).l, List.mem_flatMap.2 ⟨cNext j, by simp, by simp⟩, by simp [cNext, namesT]⟩) (fun i u hi hu => by
      rcases kept_set hj hu with ⟨e, rfl⟩ | ⟨e, hu⟩
      · omega
      · simp only [ruleB, rule7]
        rw [asks_like hng]
        exact h.2 6 (by omega) i u hu)
  exact this
theorem stepA_app (ss zs : List Sp) {i : Nat} (h : i < ss.length) : stepA (ss ++ zs) i = stepA ss i := by unfold stepA; rw [List.getElem?_append_left h]
theorem kept_app {ss zs : List Sp} {i : Nat} {t : Sp} (h : (ss ++ zs)[i]? = some t) : (i < ss.length ∧ ss[i]? = some t) ∨ (ss.length ≤ i ∧ t ∈ zs) := by
  by_cases e : i < ss.length
  · rw [List.getElem?_append_left e] at h
    exact .inl ⟨e, h⟩
  · rw [List.getElem?_append_right (by omega)] at h
    exact .inr ⟨by omega, List.mem_of_getElem? h⟩
theorem right_app {ss zs : List Sp} {win : Int} (h : rightP ss win = true) (hl : ss.length + zs.length ≤ 26) (hz : ∀ z ∈ zs, rightS z = true) : rightP (ss ++ zs) win = true := by
  obtain ⟨h1, h2, h3, h4⟩ := rightP_parts h
  refine rightP_mk (by rw [List.length_append]; omega) (by rw [List.length_append]; omega) h3 fun t ht => ?_
  rcases List.mem_append.1 ht with ht | ht
  · exact h4 t ht
  · exact hz t ht
def sTwice (t : Int) : Sp := ⟨true, 0, 1, 1 + t, false, []⟩
theorem right_twice {t : Int} (h1 : 1 ≤ t) (h2 : t ≤ 1000) : rightS (sTwice t) = true := by
  unfold rightS nbr sTwice
  simp
  omega
theorem one4 {ss : List Sp} {win t : Int} (h : MayP ss win) (h1 : 1 ≤ t) (h2 : t ≤ 1000) (hn : ss.length < 6) : checkT (ss ++ [sTwice t]) win = (4, (ss.length : Int), 110) := by
  have hl := may_len h
  have hr := right_app (zs := [sTwice t]) h.1 (by simp; omega) (fun z hz => by rw [List.mem_singleton.1 hz]; exact right_twice h1 h2)
  have := checkT_bad (k := 3) (i := ss.length) (s := sTwice t) hr (by omega) (fun k hk => by
    have hk' : k = 0 ∨ k = 1 ∨ k = 2 := by omega
    rcases hk' with rfl | rfl | rfl
    · exact keep0 h (by simp; omega)
    · refine keep1 fun u hu => ?_
      rcases kept_app hu with ⟨_, hu⟩ | ⟨e, _⟩
      · exact may_first h hu
      · omega
    · intro i u hu
      rcases kept_app hu with ⟨_, hu⟩ | ⟨_, hu⟩
      · exact h.2 2 (by omega) i u hu
      · rw [List.mem_singleton.1 hu]; simp [ruleB, sTwice]) (by simp) (by
      have ho : onceS (sTwice t) = false := by
        unfold onceS
        rw [Bool.and_eq_false_iff]
        exact .inr (decide_eq_false (show ¬ (1 + t = 1) by omega))
      show rule4 _ _ _ = false
      unfold rule4
      rw [ho]
      rfl) (fun i u hi hu => by
      rcases kept_app hu with ⟨_, hu⟩ | ⟨e, _⟩
      · simp only [ruleB]
        rw [rule4_like (ss := ss) (fun k hk => by rw [stepA_app _ _ (by omega)])]
        exact h.2 3 (by omega) i u hu
      · omega)
  exact this
theorem one4b {ss : List Sp} {win t : Int} (h : MayP ss win) (h1 : 1 ≤ t) (h2 : t ≤ 1000) (hn : ss.length = 6) : checkT (ss ++ [sTwice t]) win = (1, 0, 110) := by
  have hr := right_app (zs := [sTwice t]) h.1 (by simp; omega) (fun z hz => by rw [List.mem_singleton.1 hz]; exact right_twice h1 h2)
  have := checkT_bad (k := 0) (i := 0) (s := stepA (ss ++ [sTwice t]) 0) hr (by omega) (fun k hk => by omega) (stepA_in (by simp)) (by simp [ruleB, hn]) (fun i u hi hu => by omega)
  exact this
def sThree : Sp := ⟨false, 0, 1, 3, false, []⟩
theorem most_app (ss zs : List Sp) : mostP (ss ++ zs) = mostP ss + mostP zs := by unfold mostP sumF; simp
theorem most_three (r : Nat) : mostP (List.replicate r sThree) = 3 * r := by
  induction r with
  | zero => rfl
  | succ r ih =>
    have e : List.replicate (r + 1) sThree = [sThree] ++ List.replicate r sThree := rfl
    rw [e, most_app, ih]
    have : mostP [sThree] = 3 := by decide
    rw [this]; omega
theorem one6 {ss : List Sp} {win : Int} (h : MayP ss win) (r : Nat) (hn : ss.length + r = 6) (hr2 : 2 ≤ r) : checkT (ss ++ List.replicate r sThree) win = (6, 0, 110) := by
  have hl := may_len h
  have hr := right_app (zs := List.replicate r sThree) h.1 (by simp; omega) (fun z hz => by rw [(List.mem_replicate.1 hz).2]; decide)
  have hz : ∀ {u : Sp}, u ∈ List.replicate r sThree → u = sThree := fun hu => (List.mem_replicate.1 hu).2
  have hm0 := most_nn ss
  have := checkT_bad (k := 5) (i := 0) (s := stepA (ss ++ List.replicate r sThree) 0) hr (by omega) (fun k hk => by
    have hk' : k = 0 ∨ k = 1 ∨ k = 2 ∨ k = 3 ∨ k = 4 := by omega
    rcases hk' with rfl | rfl | rfl | rfl | rfl
    · exact keep0 h (by simp; omega)
    · refine keep1 fun u hu => ?_
      rcases kept_app hu with ⟨_, hu⟩ | ⟨e, _⟩
      · exact may_first h hu
      · omega
    · intro i u hu
      rcases kept_app hu with ⟨_, hu⟩ | ⟨_, hu⟩
      · exact h.2 2 (by omega) i u hu
      · rw [hz hu]; rfl
    · intro i u hu
      rcases kept_app hu with ⟨hi, hu⟩ | ⟨_, hu⟩
      · simp only [ruleB]
        rw [rule4_like (ss := ss) (fun k hk => by rw [stepA_app _ _ (by omega)])]
        exact h.2 3 (by omega) i u hu
      · rw [hz hu]; rfl
    · intro i u hu
      rcases kept_app hu with ⟨_, hu⟩ | ⟨_, hu⟩
      · exact h.2 4 (by omega) i u hu
      · rw [hz hu]; rfl) (stepA_in (by simp; omega)) (by simp only [ruleB]; rw [most_app, most_three, decide_eq_false_iff_not]; omega) (fun i u hi hu => by omega)
  exact this
end Go.Proofs.Ytmgkamljlgmmeaa.Tree
