/-
  Which rule is not kept, as a Lean function; contract of rules, and of each of the rules that it hands back.
-/
import Derived.Test.YtccmnngeibpcmaaGreatCD
namespace Go.Proofs.YtccmnngeibpcmaaGreat.Tree
open Go.ChangeShapes Go.WideShapes Go.ChangeAt Go.RowKit
set_option linter.unusedVariables false
set_option linter.unusedSimpArgs false
attribute [local go_sem] Oper.semAt_some
/-- Is the rule k + 1 kept by the step i? -/
def ruleB (ss : List Sp) (win : Int) (k i : Nat) (s : Sp) : Bool :=
  match k with
  | 0 => decide (ss.length ≤ 6) && decide (win ≤ 1073741824)
  | 1 => decide (0 < i) || (!s.neg && !s.strict)
  | 2 => decide (s.kind < 6)
  | 3 => rule4 ss i s
  | 4 => rule5 s
  | 5 => decide (mostP ss ≤ 4)
  | _ => rule7 ss i s
def badAt (ss : List Sp) (win : Int) (k : Nat) : Option Nat := (List.range ss.length).find? fun i => !ruleB ss win k i (stepA ss i)
def checkK (ss : List Sp) (win : Int) : Option (Nat × Nat) := (List.range 7).findSome? fun k => (badAt ss win k).map fun i => (k, i)
/-- What Check tells: the rule, the step, the error. -/
def checkT (ss : List Sp) (win : Int) : Int × Int × Int :=
  if rightP ss win then match checkK ss win with | some (k, i) => ((k : Int) + 1, (i : Int), 110) | none => (0, 0, 0)
  else (0, 0, 2)
def KeptAll (ss : List Sp) (win : Int) (k : Nat) : Prop := ∀ i s, ss[i]? = some s → ruleB ss win k i s = true
theorem stepA_in {ss : List Sp} {i : Nat} (h : i < ss.length) : ss[i]? = some (stepA ss i) := by unfold stepA; rw [List.getElem?_eq_getElem h]; rfl
theorem badAt_none {ss : List Sp} {win : Int} {k : Nat} : badAt ss win k = none ↔ KeptAll ss win k := by
  unfold badAt KeptAll
  rw [List.find?_eq_none]
  constructor
  · intro h i s hs
    have hi := (List.getElem?_eq_some_iff.1 hs).1
    have := h i (List.mem_range.2 hi)
    rw [stepA_of hs] at this
    simpa using this
  · intro h i hi
    have := h i _ (stepA_in (List.mem_range.1 hi))
    simp [this]
theorem badAt_some {ss : List Sp} {win : Int} {k i : Nat} {s : Sp} (hs : ss[i]? = some s) (hb : ruleB ss win k i s = false) (hj : ∀ j t, j < i → ss[j]? = some t → ruleB ss win k j t = true) : badAt ss win k = some i := by
  unfold badAt
  have hi := (List.getElem?_eq_some_iff.1 hs).1
  rw [List.find?_range_eq_some]
  refine ⟨by rw [stepA_of hs, hb]; rfl, List.mem_range.2 hi, fun j hji => ?_⟩
  rw [hj j _ hji (stepA_in (by omega))]; rfl
theorem checkK_none {ss : List Sp} {win : Int} (h : ∀ k, k < 7 → KeptAll ss win k) : checkK ss win = none := by
  unfold checkK
  rw [List.findSome?_eq_none_iff]
  intro k hk
  rw [badAt_none.2 (h k (List.mem_range.1 hk))]; rfl
theorem checkK_some {ss : List Sp} {win : Int} {k i : Nat} (hk : k < 7) (h : ∀ j, j < k → KeptAll ss win j) (hb : badAt ss win k = some i) : checkK ss win = some (k, i) := by
  unfold checkK
  have e : List.range 7 = List.range k ++ k :: (List.range' (k + 1) (6 - k)) := by
    rw [List.range_eq_range', List.range_eq_range', show List.range' 0 7 = List.range' 0 (k + (1 + (6 - k))) from by congr 1; omega, ← List.range'_append_1, ← List.range'_append_1]
    simp
  rw [e, List.findSome?_append]
  have : (List.range k).findSome? (fun k => (badAt ss win k).map fun i => (k, i)) = none := by
    rw [List.findSome?_eq_none_iff]
    intro j hj
    rw [badAt_none.2 (h j (List.mem_range.1 hj))]; rfl
  rw [this]
  simp [hb]
theorem checkT_wrong {ss : List Sp} {win : Int} (h : rightP ss win = false) : checkT ss win = (0, 0, 2) := by unfold checkT; simp [h]
theorem checkT_ok {ss : List Sp} {win : Int} (h : rightP ss win = true) (hk : ∀ k, k < 7 → KeptAll ss win k) : checkT ss win = (0, 0, 0) := by unfold checkT; simp [h, checkK_none hk]
theorem checkT_bad {ss : List Sp} {win : Int} {k i : Nat} {s : Sp} (h : rightP ss win = true) (hk : k < 7) (hj : ∀ j, j < k → KeptAll ss win j) (hs : ss[i]? = some s) (hb : ruleB ss win k i s = false)
    (hi : ∀ j t, j < i → ss[j]? = some t → ruleB ss win k j t = true) : checkT ss win = ((k : Int) + 1, (i : Int), 110) := by
  unfold checkT; rw [checkK_some hk hj (badAt_some hs hb hi)]; simp [h]
/-- The rules as they stand in memory: the pattern in a box at P, its greatest length in a box at Q. -/
abbrev ptr (p : Nat) : Value := .pointer (some ⟨p, 0, none⟩)
def ruleV (P Q : Nat) (k : Nat) : Value :=
  match k with
  | 0 => .func (.func 74) #[] #[ptr P]
  | 1 => .func (.func 75) #[] #[]
  | 2 => .func (.func 76) #[] #[]
  | 3 => .func (.func 77) #[] #[ptr P]
  | 4 => .func (.func 80) #[] #[]
  | 5 => .func (.func 81) #[] #[ptr Q]
  | _ => .func (.func 82) #[] #[ptr P]
def RuIn (P Q A : Nat) (a : Option Addr) (n c : Nat) (win : Int) (L : List (Sp × Value)) (W : World) : Prop :=
  PtIn P a n c win L W ∧ Boxed W Q 3 (.int .i64 (mostP (L.map (·.1)))) ∧ W.heap[A]? = some (.cells #[ruleV P Q 0, ruleV P Q 1, ruleV P Q 2, ruleV P Q 3, ruleV P Q 4, ruleV P Q 5, ruleV P Q 6] 82 (0, 0))
theorem RuIn.later {P Q A : Nat} {a : Option Addr} {n c : Nat} {win : Int} {L : List (Sp × Value)} {W W' : World} (h : RuIn P Q A a n c win L W) (hb : Below W.heap.size W W') : RuIn P Q A a n c win L W' :=
  ⟨h.1.later hb, (hb.block _ (Array.getElem?_eq_some_iff.1 h.2.1).1).trans h.2.1, (hb.block _ (Array.getElem?_eq_some_iff.1 h.2.2).1).trans h.2.2⟩
theorem RuIn.cell {P Q A : Nat} {a : Option Addr} {n c : Nat} {win : Int} {L : List (Sp × Value)} {W : World} (h : RuIn P Q A a n c win L W) {k : Nat} (hk : k < 7) : W.cell? ⟨A, k, none⟩ = some (ruleV P Q k) := by
  have hA := h.2.2
  match k, hk with
  | 0, _ | 1, _ | 2, _ | 3, _ | 4, _ | 5, _ | 6, _ => simp [World.cell?, hA]
set_option maxRecDepth 100000 in
set_option maxHeartbeats 1000000 in
theorem rules_L (a : Option Addr) (n c : Nat) (win : Int) (L : List (Sp × Value)) (hn : n ≤ 1000000) (w : World) (hl : L.length = n) (h : SpsL w (.slice a n c) L) :
    Calls Tryz.prog 55 #[ptV (.slice a n c) win] w fun e w' => ∃ P Q A, e = .returned (.slice (some ⟨A, 0, none⟩) 7 7) ∧ RuIn P Q A a n c win L w' ∧ w.heap.size ≤ P ∧ w.heap.size ≤ Q ∧ w.heap.size ≤ A ∧ Below w.heap.size w w' := by
  have hb := Lib.hid (kept_new w (.cells #[.slice a n c, .int .i64 win] 24))
  have hA := long_L a n c win L hn _ hl (h.later hb.out)
  have hp : PtIn w.heap.size a n c win L (w.alloc (.cells #[.slice a n c, .int .i64 win] 24)) := ⟨PtBox.new w _ _, hl, h.later hb.out⟩
  have c0 := hp.1.c0
  have c1 := hp.1.c1
  obtain ⟨most, hm⟩ : ∃ most, mostP (L.map (·.1)) = most := ⟨_, rfl⟩
  obtain ⟨least, hm2⟩ : ∃ most, leastP (L.map (·.1)) = most := ⟨_, rfl⟩
  rw [hm, hm2] at hA
  replace hA := Lib.hid hA
  replace hp := Lib.hid hp
  replace hm := Lib.hid hm
  clear h hl hm2
  go_enter Tryz.func55, Tryz.ntmps55
  go_wp2_with ((with_reducible refine hA.out.mono ?_); rintro e w2 ⟨rfl, hb3⟩)
  go_ret
  have hp2 := (hp.out.later hb3).later ((kept_new w2 (.cells #[.int .i64 most] 3)))
  have hB2 : Below w2.heap.size w2 ((w2.alloc (.cells #[.int .i64 most] 3)).alloc (.cells #[ruleV w.heap.size w2.heap.size 0, ruleV w.heap.size w2.heap.size 1, ruleV w.heap.size w2.heap.size 2, ruleV w.heap.size w2.heap.size 3, ruleV w.heap.size w2.heap.size 4, ruleV w.heap.size w2.heap.size 5, ruleV w.heap.size w2.heap.size 6] 82)) :=
    ((Below.refl _ w2).alloc (Nat.le_refl _) _).alloc (by simp) _
  have hsz : w.heap.size < w2.heap.size := by have := hb3.size; simp at this; omega
  refine ⟨w.heap.size, w2.heap.size, w2.heap.size + 1, rfl, ⟨(hp.out.later hb3).later hB2, ?_, ?_⟩, Nat.le_refl _, by omega, by omega, kept_trans hb.out (kept_trans hb3 hB2)⟩
  · rw [hm.out]
    have := (Boxed.new w2 3 (.int .i64 most)).alloc (.cells #[ruleV w.heap.size w2.heap.size 0, ruleV w.heap.size w2.heap.size 1, ruleV w.heap.size w2.heap.size 2, ruleV w.heap.size w2.heap.size 3, ruleV w.heap.size w2.heap.size 4, ruleV w.heap.size w2.heap.size 5, ruleV w.heap.size w2.heap.size 6] 82)
    exact this
  · have := World.alloc_heap_new (w2.alloc (.cells #[.int .i64 most] 3)) (.cells #[ruleV w.heap.size w2.heap.size 0, ruleV w.heap.size w2.heap.size 1, ruleV w.heap.size w2.heap.size 2, ruleV w.heap.size w2.heap.size 3, ruleV w.heap.size w2.heap.size 4, ruleV w.heap.size w2.heap.size 5, ruleV w.heap.size w2.heap.size 6] 82)
    rw [World.size_alloc] at this
    exact this
def ruleG : Nat → Nat
  | 0 => 74
  | 1 => 75
  | 2 => 76
  | 3 => 77
  | 4 => 80
  | 5 => 81
  | _ => 82
def ruleLb (P Q : Nat) : Nat → Array Value
  | 0 => #[ptr P]
  | 1 => #[]
  | 2 => #[]
  | 3 => #[ptr P]
  | 4 => #[]
  | 5 => #[ptr Q]
  | _ => #[ptr P]
theorem ruleV_eq (P Q k : Nat) (hk : k < 7) : ruleV P Q k = .func (.func (ruleG k)) #[] (ruleLb P Q k) := by
  match k, hk with
  | 0, _ | 1, _ | 2, _ | 3, _ | 4, _ | 5, _ | 6, _ => rfl
/-- Names of what may be written are none below 0. -/
theorem names_pos {s : Sp} (h : rightS s = true) : ∀ x ∈ namesC s.cs, 0 ≤ x := by
  intro x hx
  unfold rightS at h
  simp only [Bool.and_eq_true, List.all_eq_true] at h
  unfold namesC namesL at hx
  obtain ⟨t, ht, hxt⟩ := List.mem_flatMap.1 hx
  unfold termsC at ht
  obtain ⟨c, hc, htc⟩ := List.mem_flatMap.1 ht
  have hr := h.2 c hc
  unfold rightC at hr
  simp only [Bool.and_eq_true] at hr
  have ht2 : rightT t = true := by
    simp at htc
    rcases htc with rfl | rfl
    · exact hr.1.2
    · exact hr.2
  unfold rightT at ht2
  have ht3 := of_decide_eq_true ht2
  unfold namesT at hxt
  split at hxt
  · simp at hxt
  · split at hxt
    · simp at hxt; omega
    · simp at hxt; omega
theorem rule_any (k : Nat) (hk : k < 7) (i : Nat) (P Q A : Nat) (a1 : Option Addr) (n c1 : Nat) (win : Int) (L : List (Sp × Value)) (s : Sp) (a : Option Addr) (m c : Nat) (w : World) (hx : L[i]? = some (s, .slice a m c)) (hn2 : n ≤ 1000000) (hm : s.cs.length ≤ 100000)
    (hr : rightS s = true) (hR : RuIn P Q A a1 n c1 win L w) :
    Calls Tryz.prog (ruleG k) (#[.int .i64 i, spV s (.slice a m c)] ++ ruleLb P Q k) w fun e w' => e = .returned (.bool (ruleB (L.map (·.1)) win k i s)) ∧ Below w.heap.size w w' := by
  have hi : i < n := by have := (List.getElem?_eq_some_iff.1 hx).1; have := hR.1.2.1; omega
  match k, hk with
  | 0, _ => have := rule1_any i s a m c P a1 n c1 win L w hR.1; unfold ruleB; rw [List.length_map, hR.1.2.1]; exact this
  | 1, _ => exact rule2_any i s a m c w
  | 2, _ => exact rule3_any i s a m c w
  | 3, _ => exact rule4_any i a1 n c1 P win L s a m c w hi hn2 hR.1
  | 4, _ => exact rule5_any i s a m c w
  | 5, _ => exact rule6_any i s a m c Q _ w hR.2.1
  | 6, _ => exact rule7_any i a1 n c1 P win L s a m c w hx hn2 hm (names_pos hr) hR.1
/-- Calls that are still to be made behind a function: those of ranges that have ended. -/
def DefOk (B : Nat) : List Deferred → World → Prop
  | [], _ => True
  | d :: r, W => (∃ D, d = { target := .collected D, args := #[] } ∧ B ≤ D ∧ W.heap[D]? = some (.deferred (some [])) ∧ ∀ e ∈ r, e.target ≠ .collected D) ∧ DefOk B r W
theorem DefOk.keeps {B : Nat} {ds : List Deferred} {W W' : World} (h : DefOk B ds W) (hk : ∀ D, B ≤ D → { target := .collected D, args := #[] } ∈ ds → W.heap[D]? = some (.deferred (some [])) → W'.heap[D]? = some (.deferred (some []))) : DefOk B ds W' := by
  induction ds with
  | nil => trivial
  | cons d r ih =>
    obtain ⟨⟨D, rfl, h1, h2, h3⟩, h4⟩ := h
    exact ⟨⟨D, rfl, h1, hk D h1 List.mem_cons_self h2, h3⟩, ih h4 (fun D' b1 b2 b3 => hk D' b1 (List.mem_cons_of_mem _ b2) b3)⟩
theorem DefOk.later {B : Nat} {ds : List Deferred} {W W' : World} (h : DefOk B ds W) (hb : Below W.heap.size W W') : DefOk B ds W' :=
  h.keeps (fun D _ _ hD => (hb.block D (Array.getElem?_eq_some_iff.1 hD).1).trans hD)
theorem DefOk.set {B : Nat} {ds : List Deferred} {W : World} (h : DefOk B ds W) {p j : Nat} {cs : Array Value} {t : TypeId} {fz : Nat × Nat} (hp : W.heap[p]? = some (.cells cs t fz)) (v : Value) : DefOk B ds (W.setCell ⟨p, j, none⟩ v) :=
  h.keeps (fun D _ _ hD => block_far hD (by rintro rfl; rw [hp] at hD; cases hD) _ _)
theorem DefOk.lt {B : Nat} {ds : List Deferred} {W : World} (h : DefOk B ds W) : ∀ D, { target := .collected D, args := #[] } ∈ ds → D < W.heap.size := by
  induction ds with
  | nil => intro D hD; cases hD
  | cons d r ih =>
    intro D hD
    obtain ⟨⟨D', rfl, h1, h2, h3⟩, h4⟩ := h
    rcases List.mem_cons.1 hD with e | e
    · simp at e; subst e; exact (Array.getElem?_eq_some_iff.1 h2).1
    · exact ih h4 D e
theorem DefOk.is {B : Nat} {ds : List Deferred} {W : World} (h : DefOk B ds W) : ∀ e ∈ ds, ∃ D, e = { target := .collected D, args := #[] } := by
  induction ds with
  | nil => intro e he; cases he
  | cons d r ih =>
    intro e he
    obtain ⟨⟨D', rfl, h1, h2, h3⟩, h4⟩ := h
    rcases List.mem_cons.1 he with e' | e'
    · exact ⟨D', e'⟩
    · exact ih h4 e e'
/-- What lies below B abides a range from B on. -/
theorem DefOk.own {B S : Nat} {ds : List Deferred} (hS : ∀ D, ({ target := .collected D, args := #[] } : Deferred) ∈ ds → D < S) : OwnFrom S (fun (_ : Nat) W => DefOk B ds W) := by
  rintro k X Y row h hg hrow
  refine h.keeps (fun D _ hm hD => (hg.block D (Array.getElem?_eq_some_iff.1 hD).1 (fun e => ?_)).trans hD)
  have := (hrow D e.symm).1
  have := hS D hm
  omega
/-- One more. -/
theorem DefOk.more {B D : Nat} {ds : List Deferred} {W : World} (h : DefOk B ds W) (hB : B ≤ D) (hD : W.heap[D]? = some (.deferred (some []))) (hlt : ∀ D', ({ target := .collected D', args := #[] } : Deferred) ∈ ds → D' < D) :
    DefOk B ({ target := .collected D, args := #[] } :: ds) W :=
  ⟨⟨D, rfl, hB, hD, fun e he => by
    obtain ⟨D', rfl⟩ := h.is e he
    have := hlt D' he
    simp; omega⟩, h⟩
/-- Cells stay. -/
def KeepsC (W W' : World) : Prop := ∀ (k : Nat) (cs : Array Value) (t : TypeId) (fz : Nat × Nat), W.heap[k]? = some (.cells cs t fz) → W'.heap[k]? = some (.cells cs t fz)
theorem leaves_all {F : Fence} {n : Nat} {P : Program} {fn : Func} {tmps : Array Value} {R : Ending → World → Prop} {B : Nat} {W0 : World} (hB0 : W0.heap.size ≤ B) : ∀ (ds : List Deferred) (W : World), Below W0.heap.size W0 W → DefOk B ds W →
    (∀ W', Below W0.heap.size W0 W' → KeepsC W W' → LeavesIn F n P fn tmps R [] .returning W') → LeavesInM F n P fn tmps R ds .returning W := by
  intro ds
  induction ds with
  | nil => intro W hb _ h; exact h W hb (fun _ _ _ _ h => h)
  | cons d r ih =>
    intro W hb hd h
    obtain ⟨⟨D, rfl, h1, h2, h3⟩, h4⟩ := hd
    refine ⟨by simp, .inl ⟨D, _, rfl, run_takeDeferred h2, ih _ ?_ ?_ ?_⟩⟩
    · exact hb.trans (belowK_b (w := W0) (Nat.le_refl _) W D _ (.deferred none) (Nat.le_trans hB0 h1) h2 rfl rfl)
    · refine h4.keeps (fun D' _ hm hD' => (World.putObj_heap_other ?_).trans hD')
      intro e
      exact h3 _ hm (by rw [← e])
    · intro W' hb' hk
      refine h W' hb' (fun k cs t fz hc => hk k cs t fz ((World.putObj_heap_other ?_).trans hc))
      rintro rfl
      rw [h2] at hc; cases hc
end Go.Proofs.YtccmnngeibpcmaaGreat.Tree
