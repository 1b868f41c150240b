/-
  What Check tells, case by case; of fewer steps; CheckFirst's walk.
-/
import Derived.Test.YtmgkamljlgmmeaaCH
namespace Go.Proofs.Ytmgkamljlgmmeaa.Tree
open Go.ChangeShapes Go.WideShapes Go.ChangeAt Go.RowKit
set_option linter.unusedVariables false
set_option linter.unusedSimpArgs false
attribute [local go_sem] Oper.semAt_some
theorem least_of {P : Nat → Prop} {n : Nat} (h : P n) : ∃ m, m ≤ n ∧ P m ∧ ∀ j, j < m → ¬ P j := by
  induction n using Nat.strongRecOn with
  | _ n ih =>
    by_cases hj : ∃ j, j < n ∧ P j
    · obtain ⟨j, hjn, hp⟩ := hj
      obtain ⟨m, h1, h2, h3⟩ := ih j hjn hp
      exact ⟨m, by omega, h2, h3⟩
    · exact ⟨n, Nat.le_refl _, h, fun j hjn hp => hj ⟨j, hjn, hp⟩⟩
/-- Rule k + 1 is broken first, by step i first. -/
def BadK (ss : List Sp) (win : Int) (k i : Nat) : Prop :=
  k < 7 ∧ i < ss.length ∧ (∀ j, j < k → KeptAll ss win j) ∧ (∀ j t, j < i → ss[j]? = some t → ruleB ss win k j t = true) ∧ ruleB ss win k i (stepA ss i) = false
theorem checkT_cases {ss : List Sp} {win : Int} (h : rightP ss win = true) : (checkT ss win = (0, 0, 0) ∧ ∀ k, k < 7 → KeptAll ss win k) ∨ ∃ k i : Nat, checkT ss win = ((k : Int) + 1, (i : Int), 110) ∧ BadK ss win k i := by
  by_cases hall : ∀ k, k < 7 → KeptAll ss win k
  · exact .inl ⟨checkT_ok h hall, hall⟩
  · right
    have h1 : ∃ k, k < 7 ∧ ¬ KeptAll ss win k := by
      apply Classical.byContradiction
      intro hc
      exact hall fun k hk => Classical.byContradiction fun hn => hc ⟨k, hk, hn⟩
    obtain ⟨k0, hk0, hn0⟩ := h1
    obtain ⟨k, hkk, hnk, hmin⟩ := least_of (P := fun k => ¬ KeptAll ss win k) hn0
    have h2 : ∃ i, ∃ s, ss[i]? = some s ∧ ruleB ss win k i s = false := by
      apply Classical.byContradiction
      intro hc
      exact hnk fun i s hs => by
        cases hb : ruleB ss win k i s with
        | true => rfl
        | false => exact absurd ⟨i, s, hs, hb⟩ hc
    obtain ⟨i0, hi0⟩ := h2
    obtain ⟨i, hii, ⟨s, hs, hb⟩, himin⟩ := least_of (P := fun i => ∃ s, ss[i]? = some s ∧ ruleB ss win k i s = false) hi0
    have hj : ∀ j, j < k → KeptAll ss win j := fun j hj => Classical.byContradiction fun hn => hmin j hj hn
    have hi : ∀ j t, j < i → ss[j]? = some t → ruleB ss win k j t = true := fun j t hjt ht => by
      cases hb : ruleB ss win k j t with
      | true => rfl
      | false => exact absurd ⟨t, ht, hb⟩ (himin j hjt)
    exact ⟨k, i, checkT_bad h (by omega) hj hs hb hi, by omega, (List.getElem?_eq_some_iff.1 hs).1, hj, hi, by rw [stepA_of hs]; exact hb⟩
theorem stepA_take {ss : List Sp} {n k : Nat} (h : k < n) : stepA (ss.take n) k = stepA ss k := by unfold stepA; rw [List.getElem?_take_of_lt h]
theorem most_take (ss : List Sp) (n : Nat) : mostP (ss.take n) ≤ mostP ss := by
  induction ss generalizing n with
  | nil => simp
  | cons s r ih =>
    cases n with
    | zero =>
      have : ∀ l : List Sp, 0 ≤ mostP l := by
        intro l
        induction l with
        | nil => simp [mostP, sumF]
        | cons x r ih =>
          have hx := within_bd x.max
          unfold mostP sumF at ih ⊢
          rw [List.map_cons, List.sum_cons]
          split <;> omega
      simpa [mostP, sumF] using this (s :: r)
    | succ n =>
      have := ih n
      unfold mostP sumF at this ⊢
      rw [List.take_succ_cons, List.map_cons, List.sum_cons, List.map_cons, List.sum_cons]
      omega
theorem askBad_take {ss : List Sp} {n i : Nat} (hi : i < n) (x : Int) : askBad (ss.take n) i x = askBad ss i x := by
  unfold askBad
  by_cases h : x < i
  · rw [stepA_take (by omega)]
  · simp [h]
theorem ruleB_take {ss : List Sp} {win : Int} {n k i : Nat} {s : Sp} (hi : i < n) (h : ruleB ss win k i s = true) : ruleB (ss.take n) win k i s = true := by
  match k with
  | 0 =>
    simp only [ruleB, Bool.and_eq_true, decide_eq_true_eq] at h ⊢
    exact ⟨by rw [List.length_take]; omega, h.2⟩
  | 1 => exact h
  | 2 => exact h
  | 3 =>
    simp only [ruleB, rule4, follows] at h ⊢
    rw [stepA_take hi, stepA_take (by omega)]
    exact h
  | 4 => exact h
  | 5 =>
    simp only [ruleB, decide_eq_true_eq] at h ⊢
    exact Int.le_trans (most_take ss n) h
  | k + 6 =>
    simp only [ruleB, rule7, asksP, askBad_take hi] at h ⊢
    exact h
theorem right_take {ss : List Sp} {win : Int} {n : Nat} (h : rightP ss win = true) (hn : 1 ≤ n) : rightP (ss.take n) win = true := by
  unfold rightP at h ⊢
  simp only [Bool.and_eq_true, decide_eq_true_eq, List.all_eq_true] at h ⊢
  refine ⟨⟨⟨?_, ?_⟩, h.1.2⟩, fun s hs => h.2 s (List.mem_of_mem_take hs)⟩ <;> rw [List.length_take] <;> omega
/-- What is told of the steps ahead of the first one that breaks a rule: another rule, behind it, or none. -/
theorem check_take {ss : List Sp} {win : Int} {k i : Nat} (h : rightP ss win = true) (hb : BadK ss win k i) (hi : 1 ≤ i) : (checkT (ss.take i) win).1 = 0 ∨ ((k : Int) + 1 < (checkT (ss.take i) win).1) := by
  obtain ⟨h1, h2, h3, h4, h5⟩ := hb
  rcases checkT_cases (right_take h hi) with ⟨e, -⟩ | ⟨k', i', e, h1', h2', h3', h4', h5'⟩
  · left; rw [e]
  · right
    rw [e]
    have hi'i : i' < i := by rw [List.length_take] at h2'; omega
    have hs := stepA_in (ss := ss) (i := i') (by omega)
    rw [stepA_take hi'i] at h5'
    have : k < k' := by
      apply Classical.byContradiction
      intro hc
      have hr : ruleB ss win k' i' (stepA ss i') = true := by
        by_cases e : k' = k
        · subst e; exact h4 i' _ hi'i hs
        · exact h3 k' (by omega) i' _ hs
      rw [ruleB_take hi'i hr] at h5'
      cases h5'
    show (k : Int) + 1 < (k' : Int) + 1
    omega
theorem ck_of {L : List (Sp × Value)} {w : World} (hg : great (L.map (·.1)) = false) (hq : ∀ x ∈ L, InSp w x) : CkOk L := by
  obtain ⟨hS, -, h20⟩ := Small.of_great hg
  exact ⟨hS.short, fun x hx => Nat.le_trans (hS.cmps x hx) (by omega), fun x hx c hc => ((hq x hx).2.2 c hc).1⟩
theorem own_lit {X : World} {base n : Nat} {v : Value} {L' : List (Sp × Value)} {L : List (Sp × Value)} (h : OwnSps X base v L') (hmap : L'.map (·.1) = L.map (·.1)) (hn : L.length = n) : ∃ a c, v = .slice a n c ∧ n ≤ c := by
  have hl : L'.length = n := by have := congrArg List.length hmap; simpa [hn] using this
  rcases h.1.2 with ⟨rfl, h0⟩ | ⟨g, cap, cur, rfl, _, _, hc, _⟩
  · exact ⟨none, 0, by rw [← hl, h0], by omega⟩
  · exact ⟨_, _, by rw [hl], by omega⟩
theorem check_own {L L' : List (Sp × Value)} {a' : Option Addr} {n c' i : Nat} {win q1 q2 q3 : Int} {X Y : World} (hok : CkOk L) (hn : L.length = n) (hqT : checkT ((L.map (·.1)).take i) win = (q1, q2, q3)) (hmap : L'.map (·.1) = L.map (·.1)) (ho : SpsL X (.slice a' n c') L') (hi : i ≤ n)
    (hY : Below X.heap.size X Y) : Calls Try.prog 10 #[ptV (.slice a' i c') win] Y fun e w' => e = .returned (.tuple #[.int .i64 q1, .int .i64 q2, .int .i64 q3]) ∧ Below Y.heap.size Y w' := by
  have hl : L'.length = n := by have := congrArg List.length hmap; simpa [hn] using this
  have hck : CkOk (L'.take i) := by
    have hm : ∀ x ∈ L'.take i, ∃ y ∈ L, y.1 = x.1 := fun x hx => by
      have : x.1 ∈ L.map (·.1) := by rw [← hmap]; exact List.mem_map.2 ⟨x, List.mem_of_mem_take hx, rfl⟩
      obtain ⟨y, hy, e⟩ := List.mem_map.1 this
      exact ⟨y, hy, e⟩
    refine ⟨⟨?_, fun x hx => ?_⟩, fun x hx => ?_, fun x hx c hc => ?_⟩
    · have := hok.1.1; rw [List.length_take]; omega
    · obtain ⟨y, hy, e⟩ := hm x hx; rw [← e]; exact hok.1.2 y hy
    · obtain ⟨y, hy, e⟩ := hm x hx; rw [← e]; exact hok.2.1 y hy
    · obtain ⟨y, hy, e⟩ := hm x hx; rw [← e] at hc; exact hok.2.2 y hy c hc
  have := check_V win hck Y ((ho.take hl i hi).later hY)
  rw [List.map_take, hmap, hqT] at this
  exact this
set_option maxRecDepth 100000 in
set_option maxHeartbeats 8000000 in
theorem firstWalk (hwk : WakesC) (v : Value) (L : List (Sp × Value)) (win : Int) (w : World) (h : SpsL w v L) (hl : L.length ≤ maxLen ∧ Roomy v) (hq : ∀ x ∈ L, InSp w x) :
    Calls Try.prog 6 #[ptV v win] w fun e w' => e = .returned (.bool true) ∧ Below w.heap.size w w' := by
  have hb := kept_new w (.cells #[v, .int .i64 win] 24)
  have hG := great_W win _ hl.1 (h.later hb)
  have hW := Lib.hid hwk
  obtain ⟨n, hn⟩ : ∃ n, L.length = n := ⟨_, rfl⟩
  obtain ⟨a, c, rfl⟩ := h.lit hn
  have hp : PtIn w.heap.size a n c win L (w.alloc (.cells #[.slice a n c, .int .i64 win] 24)) := ⟨PtBox.new w _ _, hn, h.later hb⟩
  have c0 := hp.1.c0
  have c1 := hp.1.c1
  obtain ⟨G, hg⟩ : ∃ G, great (L.map (·.1)) = G := ⟨_, rfl⟩
  rw [hg] at hG
  cases G with
  | true =>
    replace hG := Lib.hid hG
    replace hb := Lib.hid hb
    clear hp h hl hn hg hwk hq
    go_enter Try.func6, Try.ntmps6
    go_wp2_with (first
      | ((with_reducible refine hG.out.mono ?_); rintro e w2 ⟨rfl, hb2⟩)
      | ((with_reducible refine (hW.out _).mono ?_); rintro e w3 ⟨rfl, hb3⟩))
    go_ret
    exact ⟨rfl, kept_trans hb.out (kept_trans hb2 hb3)⟩
  | false =>
    have hok := ck_of hg hq
    obtain ⟨hS, h40, -⟩ := Small.of_great hg
    rw [List.length_map, hn] at h40
    have hC0 := fun W (hW : PtIn w.heap.size a n c win L W) => check_V win hok W hW.2.2
    have hR0 := fun W (hW : PtIn w.heap.size a n c win L W) => refRight_V win hS.short W hW.2.2
    have hO0 := fun W (hW : PtIn w.heap.size a n c win L W) => refOwn_V win hS.fits W hW.2.2
    replace hG := Lib.hid hG
    replace hb := Lib.hid hb
    have hpp := Lib.hid hp
    clear hg h hl hwk hq
    cases hr : rightP (L.map (·.1)) win with
    | false =>
      rw [hr] at hR0
      rw [checkT_wrong hr] at hC0
      replace hC0 := Lib.hid hC0
      replace hR0 := Lib.hid hR0
      clear hr hO0 hp hn hok hS
      go_enter Try.func6, Try.ntmps6
      go_wp2_with (first
        | ((with_reducible refine hG.out.mono ?_); rintro e X ⟨rfl, hbx⟩; replace hpp := Lib.hid (hpp.out.later hbx); replace hb := Lib.hid (kept_trans hb.out hbx); have c0 := hpp.out.1.c0; have c1 := hpp.out.1.c1)
        | ((with_reducible refine (hC0.out _ hpp.out).mono ?_); rintro e X ⟨rfl, hbx⟩; replace hpp := Lib.hid (hpp.out.later hbx); replace hb := Lib.hid (kept_trans hb.out hbx); have c0 := hpp.out.1.c0; have c1 := hpp.out.1.c1)
        | ((with_reducible refine (hR0.out _ hpp.out).mono ?_); rintro e X ⟨rfl, hbx⟩; replace hpp := Lib.hid (hpp.out.later hbx); replace hb := Lib.hid (kept_trans hb.out hbx); have c0 := hpp.out.1.c0; have c1 := hpp.out.1.c1)
        | ((with_reducible refine (hW.out _).mono ?_); rintro e X ⟨rfl, hbx⟩; replace hb := Lib.hid (kept_trans hb.out hbx)))
      go_ret
      exact ⟨rfl, hb.out⟩
    | true =>
      rw [hr] at hR0
      replace hR0 := Lib.hid hR0
      have hn1 : 1 ≤ n := by
        unfold rightP at hr
        simp only [Bool.and_eq_true, decide_eq_true_eq, List.length_map] at hr
        omega
      rcases checkT_cases hr with ⟨hT, -⟩ | ⟨k, i, hT, hbad⟩
      · rw [hT] at hC0
        replace hC0 := Lib.hid hC0
        have hn0 : ¬ (n : Int) ≤ 0 := by omega
        clear hr hO0 hp hn hok hS hT
        go_enter Try.func6, Try.ntmps6
        go_wp2_with (first
          | ((with_reducible refine hG.out.mono ?_); rintro e X ⟨rfl, hbx⟩; replace hpp := Lib.hid (hpp.out.later hbx); replace hb := Lib.hid (kept_trans hb.out hbx); have c0 := hpp.out.1.c0; have c1 := hpp.out.1.c1)
          | ((with_reducible refine (hC0.out _ hpp.out).mono ?_); rintro e X ⟨rfl, hbx⟩; replace hpp := Lib.hid (hpp.out.later hbx); replace hb := Lib.hid (kept_trans hb.out hbx); have c0 := hpp.out.1.c0; have c1 := hpp.out.1.c1)
          | ((with_reducible refine (hR0.out _ hpp.out).mono ?_); rintro e X ⟨rfl, hbx⟩; replace hpp := Lib.hid (hpp.out.later hbx); replace hb := Lib.hid (kept_trans hb.out hbx); have c0 := hpp.out.1.c0; have c1 := hpp.out.1.c1)
          | ((with_reducible refine (hW.out _).mono ?_); rintro e X ⟨rfl, hbx⟩; replace hb := Lib.hid (kept_trans hb.out hbx)))
        go_ret
        exact ⟨rfl, hb.out⟩
      · rw [hT] at hC0
        replace hC0 := Lib.hid hC0
        have hin : ¬ (n : Int) ≤ i := by have := hbad.2.1; rw [List.length_map, hn] at this; omega
        have hi0 : ¬ (i : Int) < 0 := by omega
        have hk7 := hbad.1
        have hk' : (k = 0 ∨ k = 1 ∨ k = 5) ∨ (k = 2 ∨ k = 3 ∨ k = 4 ∨ k = 6) := by omega
        rcases hk' with hk | hk
        · clear hr hO0 hp hn hok hS hT hbad
          rcases hk with rfl | rfl | rfl
          all_goals
            go_enter Try.func6, Try.ntmps6
            go_wp2_with (first
              | ((with_reducible refine hG.out.mono ?_); rintro e X ⟨rfl, hbx⟩; replace hpp := Lib.hid (hpp.out.later hbx); replace hb := Lib.hid (kept_trans hb.out hbx); have c0 := hpp.out.1.c0; have c1 := hpp.out.1.c1)
              | ((with_reducible refine (hC0.out _ hpp.out).mono ?_); rintro e X ⟨rfl, hbx⟩; replace hpp := Lib.hid (hpp.out.later hbx); replace hb := Lib.hid (kept_trans hb.out hbx); have c0 := hpp.out.1.c0; have c1 := hpp.out.1.c1)
              | ((with_reducible refine (hR0.out _ hpp.out).mono ?_); rintro e X ⟨rfl, hbx⟩; replace hpp := Lib.hid (hpp.out.later hbx); replace hb := Lib.hid (kept_trans hb.out hbx); have c0 := hpp.out.1.c0; have c1 := hpp.out.1.c1)
              | ((with_reducible refine (hW.out _).mono ?_); rintro e X ⟨rfl, hbx⟩; replace hb := Lib.hid (kept_trans hb.out hbx)))
            go_ret
            exact ⟨rfl, hb.out⟩
        · by_cases hi1 : i = 0
          · subst hi1
            rw [show ((0 : Nat) : Int) = 0 from rfl] at hC0 hin hi0
            clear hr hO0 hp hn hok hS hT hbad
            rcases hk with rfl | rfl | rfl | rfl
            all_goals
              go_enter Try.func6, Try.ntmps6
              go_wp2_with (first
                | ((with_reducible refine hG.out.mono ?_); rintro e X ⟨rfl, hbx⟩; replace hpp := Lib.hid (hpp.out.later hbx); replace hb := Lib.hid (kept_trans hb.out hbx); have c0 := hpp.out.1.c0; have c1 := hpp.out.1.c1)
                | ((with_reducible refine (hC0.out _ hpp.out).mono ?_); rintro e X ⟨rfl, hbx⟩; replace hpp := Lib.hid (hpp.out.later hbx); replace hb := Lib.hid (kept_trans hb.out hbx); have c0 := hpp.out.1.c0; have c1 := hpp.out.1.c1)
                | ((with_reducible refine (hR0.out _ hpp.out).mono ?_); rintro e X ⟨rfl, hbx⟩; replace hpp := Lib.hid (hpp.out.later hbx); replace hb := Lib.hid (kept_trans hb.out hbx); have c0 := hpp.out.1.c0; have c1 := hpp.out.1.c1)
                | ((with_reducible refine (hW.out _).mono ?_); rintro e X ⟨rfl, hbx⟩; replace hb := Lib.hid (kept_trans hb.out hbx)))
              go_ret
              exact ⟨rfl, hb.out⟩
          · have hct := check_take hr hbad (by omega)
            have hiB : ((i : Int) == 0) = false := by simp; omega
            have hile : i ≤ n := by omega
            have hile2 : (i : Int) ≤ n := by omega
            obtain ⟨q1, q2, q3, hqT⟩ : ∃ q1 q2 q3, checkT ((L.map (·.1)).take i) win = (q1, q2, q3) := ⟨_, _, _, rfl⟩
            rw [hqT] at hct
            dsimp only at hct
            have hC2 := fun (L' : List (Sp × Value)) (a' : Option Addr) (c' : Nat) (X Y : World) (hmap : L'.map (·.1) = L.map (·.1)) (ho : SpsL X (.slice a' n c') L') (hY : Below X.heap.size X Y) => check_own (i := i) hok hn hqT hmap ho hile hY
            replace hC2 := Lib.hid hC2
            replace hO0 := Lib.hid hO0
            replace hn := Lib.hid hn
            have hct' : (q1 == 0) = true ∨ ((q1 == 0) = false ∧ (k : Int) + 1 < q1) := by
              rcases hct with h | h
              · left; simp [h]
              · right; exact ⟨by simp; omega, h⟩
            clear hr hp hok hS hT hbad hi1 hqT hct
            rcases hct' with hq1 | ⟨hq1, hq2⟩
            all_goals
              rcases hk with rfl | rfl | rfl | rfl
              all_goals
                go_enter Try.func6, Try.ntmps6
                go_wp2_with (first
                  | ((with_reducible refine hG.out.mono ?_); rintro e X ⟨rfl, hbx⟩; replace hpp := Lib.hid (hpp.out.later hbx); replace hb := Lib.hid (kept_trans hb.out hbx); have c0 := hpp.out.1.c0; have c1 := hpp.out.1.c1)
                  | ((with_reducible refine (hC0.out _ hpp.out).mono ?_); rintro e X ⟨rfl, hbx⟩; replace hpp := Lib.hid (hpp.out.later hbx); replace hb := Lib.hid (kept_trans hb.out hbx); have c0 := hpp.out.1.c0; have c1 := hpp.out.1.c1)
                  | ((with_reducible refine (hR0.out _ hpp.out).mono ?_); rintro e X ⟨rfl, hbx⟩; replace hpp := Lib.hid (hpp.out.later hbx); replace hb := Lib.hid (kept_trans hb.out hbx); have c0 := hpp.out.1.c0; have c1 := hpp.out.1.c1)
                  | ((with_reducible refine (hO0.out _ hpp.out).mono ?_); rintro e X ⟨v', L', rfl, hown, hmap, hbx⟩; obtain ⟨a', c', rfl, hcap⟩ := own_lit hown hmap hn.out; replace hpp := Lib.hid (hpp.out.later hbx); replace hb := Lib.hid (kept_trans hb.out hbx); have c0 := hpp.out.1.c0; have c1 := hpp.out.1.c1; have hic : i ≤ c' := Nat.le_trans hile hcap; have hsps := Lib.hid hown.sps; replace hmap := Lib.hid hmap; clear hown hcap)
                  | ((with_reducible refine (hC2.out L' a' c' X _ hmap.out hsps.out (kept_new X _)).mono ?_); rintro e Z ⟨rfl, hbz⟩; replace hb := Lib.hid (kept_trans (kept_alloc hb.out _) hbz))
                  | ((with_reducible refine (hW.out _).mono ?_); rintro e Z ⟨rfl, hbz⟩; replace hb := Lib.hid (kept_trans hb.out hbz)))
                go_ret
                exact ⟨rfl, hb.out⟩
end Go.Proofs.Ytmgkamljlgmmeaa.Tree
