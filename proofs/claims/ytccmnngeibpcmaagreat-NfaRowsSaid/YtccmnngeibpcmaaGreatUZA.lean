/-
  Several texts in one: UA UB UC UD UE UF UG.
-/
import Derived.Test.YtccmnngeibpcmaaGreatRR
import Derived.Laws.CopyOwn
import Derived.Test.YtccmnngeibpcmaaGreatRY
import Derived.Lib.AppendZeros
import Derived.Test.YtccmnngeibpcmaaGreatRN
import Derived.Test.YtccmnngeibpcmaaGreatCG
import Derived.Test.YtccmnngeibpcmaaGreatCN
import Derived.Test.YtccmnngeibpcmaaGreatRAQ
/- slices.Repeat at a row of one number, one to three times; bits.Mul as it asks it. -/
namespace Go.Proofs.YtccmnngeibpcmaaGreat.Tree
open Go.ChangeShapes Go.WideShapes Go.ChangeAt Go.RowKit
set_option linter.unusedVariables false
set_option linter.unusedSimpArgs false
set_option maxRecDepth 100000
attribute [local go_sem] Oper.semAt_some
theorem mul64_1 (t : Int) (ht : t = 1 ∨ t = 2 ∨ t = 3) (w : World) : Calls Tryz.prog 99 #[.int .u64 1, .int .u64 t] w fun e w' => e = .returned (.tuple #[.int .u64 0, .int .u64 t]) ∧ w' = w := by
  rcases ht with rfl | rfl | rfl
  · go_enter Tryz.func99, Tryz.ntmps99
    go_wp2
    exact bodyPost_ret (v := .tuple #[.int .u64 0, .int .u64 1]) (by simp [results, Tryz.results99, go_sem] <;> kernel_rfl) rfl ⟨rfl, rfl⟩
  · go_enter Tryz.func99, Tryz.ntmps99
    go_wp2
    exact bodyPost_ret (v := .tuple #[.int .u64 0, .int .u64 2]) (by simp [results, Tryz.results99, go_sem] <;> kernel_rfl) rfl ⟨rfl, rfl⟩
  · go_enter Tryz.func99, Tryz.ntmps99
    go_wp2
    exact bodyPost_ret (v := .tuple #[.int .u64 0, .int .u64 3]) (by simp [results, Tryz.results99, go_sem] <;> kernel_rfl) rfl ⟨rfl, rfl⟩
theorem mul_1 (t : Int) (ht : t = 1 ∨ t = 2 ∨ t = 3) (w : World) : Calls Tryz.prog 87 #[.int .u64 1, .int .u64 t] w fun e w' => e = .returned (.tuple #[.int .u64 0, .int .u64 t]) ∧ w' = w := by
  have h := mul64_1 t ht w
  go_enter Tryz.func87, Tryz.ntmps87
  go_wp2_with ((with_reducible refine h.mono ?_); rintro e w' ⟨rfl, rfl⟩)
  exact bodyPost_ret (v := .tuple #[.int .u64 0, .int .u64 t]) (by simp [results, Tryz.results87, go_sem]) rfl ⟨rfl, rfl⟩
theorem own_full {W : World} {base : Nat} {e : TypeId} {n g : Nat} {xs : List Value} (h : W.ownsRow base e 1 (.slice (some ⟨g, 0, none⟩) n n) n xs) : W.heap[g]? = some (.cells xs.toArray e (0, 0)) := by
  rcases h.2 with ⟨e, _⟩ | ⟨g', cap, cur, e, _, hg, _, _, hs, ht⟩
  · cases e
  · cases e
    rw [hg, ← ht, Nat.mul_one, List.take_of_length_le (by simp; omega)]
theorem full_own {W : World} {base : Nat} {e : TypeId} {n g : Nat} {xs : List Value} (h : W.heap[g]? = some (.cells xs.toArray e (0, 0))) (hn : xs.length = n) (hb : base ≤ g) (hm : n ≤ maxLen) : W.ownsRow base e 1 (.slice (some ⟨g, 0, none⟩) n n) n xs :=
  ⟨by omega, .inr ⟨g, n, _, rfl, hb, h, Nat.le_refl _, hm, by simp [hn], by simp [← hn]⟩⟩
theorem cell_one_at {W : World} {p o : Nat} {u : Value} (h : W.cell? ⟨p, o, none⟩ = some u) {j : Nat} {v : Value} (hj : [u][j]? = some v) : W.cell? ((⟨p, o, none⟩ : Addr).add j) = some v := by
  cases j with
  | zero => simp at hj; subst hj; simpa [Addr.add] using h
  | succ j => simp at hj
theorem min_one {t : Nat} (h : 1 ≤ t) : 1 = Nat.min 1 t := (Nat.min_eq_left h).symm
/-- A row that is being filled: so many are there. -/
def repL (x : Int) (t j : Nat) : List Value := List.replicate j (.int .i64 x) ++ List.replicate (t - j) (.int .i64 0)
theorem repL_len (x : Int) (t j : Nat) (h : j ≤ t) : (repL x t j).length = t := by simp [repL]; omega
theorem repL_one (x : Int) (t : Nat) (h : 1 ≤ t) : splice (List.replicate t (.int .i64 0)) 0 [.int .i64 x] = repL x t 1 := by
  simp [splice, repL]
theorem repL_more (x : Int) (t j k : Nat) (h : j + k ≤ t) : splice (repL x t j) j (List.replicate k (.int .i64 x)) = repL x t (j + k) := by
  unfold splice repL
  rw [List.take_left' (by simp), List.drop_append, ← List.replicate_append_replicate, List.append_assoc]
  simp
  omega
theorem mod1 (t : Nat) : List.map (fun x => ([Value.int IntKind.i64 0][x % 1]?).getD default) (List.range t) = List.replicate t (Value.int IntKind.i64 0) := by
  refine List.ext_getElem (by simp) (fun i h1 h2 => by simp [Nat.mod_one])
theorem made_zero (t : Nat) : (madeCells (Value.int .i64 0).cells (t * 1)).toList = List.replicate t (.int .i64 0) := by
  unfold madeCells
  simp [Value.cells, go_sem]
  exact mod1 t
set_option maxHeartbeats 2000000 in
theorem repeat_1 (t G : Nat) (x : Int) (p : Nat) (ht1 : 1 ≤ t) (ht3 : t ≤ 3) (w : World) (hG : w.heap.size = G) (hp : w.cell? ⟨p, 0, none⟩ = some (.int .i64 x)) :
    Calls Tryz.prog 62 #[.slice (some ⟨p, 0, none⟩) 1 1, .int .i64 t] w fun e w' => e = .returned (.slice (some ⟨G, 0, none⟩) t t) ∧ w'.ownsRow G 3 1 (.slice (some ⟨G, 0, none⟩) t t) t (ints (List.replicate t x)) ∧ Below G w w' := by
  have h := mul_1 t (by omega) w
  obtain ⟨i0, hi, hz0, hz1, hz2⟩ := info_parts Tryz.info3
  have hb8 : i0.bytes * t ≤ 281474976710656 := by rw [hz2]; omega
  have hm : t ≤ maxLen := by unfold maxLen; omega
  have hi := Lib.hid hi
  have h0 : (0 : Int) ≤ t := by omega
  have hw1 : IntKind.wrap .u64 (t : Int) = t := by unfold IntKind.wrap; simp [IntKind.signed, IntKind.bits]; omega
  have hw2 : IntKind.wrap .i64 (t : Int) = t := by unfold IntKind.wrap; simp [IntKind.signed, IntKind.bits]; omega
  have hp0 : p < w.heap.size := World.block_lt_of_cell? w _ hp
  have hzr := Lib.hid (show (madeCells (Value.int .i64 0).cells (t * 1)).toList = List.replicate t (.int .i64 0) from made_zero t)
  go_enter Tryz.func62, Tryz.ntmps62
  go_upto_region 7 with (first | ((with_reducible refine h.mono ?_); rintro e w' ⟨rfl, rfl⟩) | (refine wpList_make_full _ rfl _ _ 28 rfl _ 3 i0 (.int .i64 0) 1 Tryz.underlying28 hi.out hz0 hz1 .i64 .i64 _ _ _ rfl rfl rfl rfl hb8 hm (Nat.le_refl _) ?_; intro w1 hown hgrow))
  rw [hzr.out] at hown
  have hg1 := own_full hown
  have hB1 : Below w'.heap.size w' w1 := (Below.refl _ _).grown hgrow (Nat.le_refl _) (fun _ h => by cases h)
  have hp1 := bcell hB1 hp0 hp
  have hne : p ≠ w'.heap.size := by omega
  clear hown hgrow h hi hz0 hz1 hz2 hb8 hzr hp
  rw [hG] at hg1 hB1 hp0 hne
  go_wp2_with ((refine wpList_copy_splice rfl (.tmp 31) (.tmp 32) 28 28 rfl 3 Tryz.underlying28 (by kernel_rfl) _ _ _ _ _ _ rfl rfl G 0 (List.replicate t (.int .i64 0)) 3 hg1 [.int .i64 x] (min_one ht1) (fun _ => ⟨rfl, _, rfl, fun j v hj => cell_one_at hp1 hj⟩) (by simpa using ht1) (by simp [Value.oneCell']) G w' hB1 (Nat.le_refl _) ?_; intro w2 hg2 hB2))
  clear hg1 hB1 hp1
  replace hg2 : Hid (w2.heap[G]? = some (.cells (repL x t 1).toArray 3 (0, 0))) := by rw [← repL_one x t ht1]; exact hg2
  go_loopw [8] (fun u wr => ∃ j : Nat, 1 ≤ j ∧ j ≤ t ∧ u = .int .i64 j ∧ wr.heap[G]? = some (.cells (repL x t j).toArray 3 (0, 0)) ∧ Below G w' wr) (fun u _ => t - (intOf u).toNat)
  case atStart => exact ⟨1, Nat.le_refl _, ht1, rfl, hg2.out, hB2⟩
  case round =>
    clear hg2 hB2
    obtain ⟨j, hj1, hjt, rfl, hg, hB⟩ := hrel
    by_cases hlt : j < t
    · have hlti : (j : Int) < t := by omega
      have hcases : (t = 2 ∧ j = 1) ∨ (t = 3 ∧ j = 1) ∨ (t = 3 ∧ j = 2) := by omega
      clear hw1 hw2 h0 hlt hlti hj1 hjt ht1 ht3 hm
      have hrl : ∀ a b, a + 1 ≤ b → splice (repL x b a) a [.int .i64 x] = repL x b (a + 1) := fun a b h => repL_more x b a 1 h
      replace hrl := Lib.hid hrl
      rcases hcases with ⟨rfl, rfl⟩ | ⟨rfl, rfl⟩ | ⟨rfl, rfl⟩
      · have hgD : wr.drew.heap[G]? = some (.cells (repL x 2 1).toArray 3 (0, 0)) := hg
        have hBD : Below G w' wr.drew := hB.trans ⟨rfl, rfl, rfl, Nat.le_refl _, fun _ _ => rfl⟩
        have hc0 : wr.drew.cell? ⟨G, 0, none⟩ = some (.int .i64 x) := by simp only [World.cell?, hgD]; rfl
        clear hg hB
        go_wp2
        go_region_law (refine step_copy_splice rfl (.tmp 41) (.tmp 44) 28 28 rfl 3 Tryz.underlying28 (by kernel_rfl) (some ⟨G, 1, none⟩) (some ⟨G, 0, none⟩) 1 1 1 2 (by kernel_rfl) (by kernel_rfl) G 1 (repL x 2 1) 3 hgD [.int .i64 x] (show 1 = Nat.min 1 1 from by decide) (fun _ => ⟨rfl, _, rfl, fun j v hj => cell_one_at hc0 hj⟩) (show 1 + 1 ≤ 2 from by decide) (by simp [Value.oneCell']) G w' hBD (Nat.le_refl _) ?_; intro w3 hg3 hB3)
        have hg4 : w3.heap[G]? = some (.cells (repL x 2 2).toArray 3 (0, 0)) := by rw [← hrl.out 1 2 (by decide)]; exact hg3.out
        refine ⟨⟨_, _, _, _, _, _, _, _, _, _, _, _, _, _, ⟨2, by decide, by decide, rfl, hg4, hB3⟩, rfl⟩, ?_⟩
        show 2 - (IntKind.wrap .i64 2).toNat < 2 - (1 : Int).toNat * 1
        decide
      · have hgD : wr.drew.heap[G]? = some (.cells (repL x 3 1).toArray 3 (0, 0)) := hg
        have hBD : Below G w' wr.drew := hB.trans ⟨rfl, rfl, rfl, Nat.le_refl _, fun _ _ => rfl⟩
        have hc0 : wr.drew.cell? ⟨G, 0, none⟩ = some (.int .i64 x) := by simp only [World.cell?, hgD]; rfl
        clear hg hB
        go_wp2
        go_region_law (refine step_copy_splice rfl (.tmp 41) (.tmp 44) 28 28 rfl 3 Tryz.underlying28 (by kernel_rfl) (some ⟨G, 1, none⟩) (some ⟨G, 0, none⟩) 2 2 1 3 (by kernel_rfl) (by kernel_rfl) G 1 (repL x 3 1) 3 hgD [.int .i64 x] (show 1 = Nat.min 1 2 from by decide) (fun _ => ⟨rfl, _, rfl, fun j v hj => cell_one_at hc0 hj⟩) (show 1 + 1 ≤ 3 from by decide) (by simp [Value.oneCell']) G w' hBD (Nat.le_refl _) ?_; intro w3 hg3 hB3)
        have hg4 : w3.heap[G]? = some (.cells (repL x 3 2).toArray 3 (0, 0)) := by rw [← hrl.out 1 3 (by decide)]; exact hg3.out
        refine ⟨⟨_, _, _, _, _, _, _, _, _, _, _, _, _, _, ⟨2, by decide, by decide, rfl, hg4, hB3⟩, rfl⟩, ?_⟩
        show 3 - (IntKind.wrap .i64 2).toNat < 3 - (1 : Int).toNat * 1
        decide
      · have hgD : wr.drew.heap[G]? = some (.cells (repL x 3 2).toArray 3 (0, 0)) := hg
        have hBD : Below G w' wr.drew := hB.trans ⟨rfl, rfl, rfl, Nat.le_refl _, fun _ _ => rfl⟩
        have hc0 : wr.drew.cell? ⟨G, 0, none⟩ = some (.int .i64 x) := by simp only [World.cell?, hgD]; rfl
        clear hg hB
        go_wp2
        go_region_law (refine step_copy_splice rfl (.tmp 41) (.tmp 44) 28 28 rfl 3 Tryz.underlying28 (by kernel_rfl) (some ⟨G, 2, none⟩) (some ⟨G, 0, none⟩) 1 1 2 3 (by kernel_rfl) (by kernel_rfl) G 2 (repL x 3 2) 3 hgD [.int .i64 x] (show 1 = Nat.min 2 1 from by decide) (fun _ => ⟨rfl, _, rfl, fun j v hj => cell_one_at hc0 hj⟩) (show 2 + 1 ≤ 3 from by decide) (by simp [Value.oneCell']) G w' hBD (Nat.le_refl _) ?_; intro w3 hg3 hB3)
        have hg4 : w3.heap[G]? = some (.cells (repL x 3 3).toArray 3 (0, 0)) := by rw [← hrl.out 2 3 (by decide)]; exact hg3.out
        refine ⟨⟨_, _, _, _, _, _, _, _, _, _, _, _, _, _, ⟨3, by decide, by decide, rfl, hg4, hB3⟩, rfl⟩, ?_⟩
        show 3 - (IntKind.wrap .i64 3).toNat < 3 - (1 : Int).toNat * 2
        decide
    · obtain rfl : j = t := by omega
      go_wp2
      go_ret
      refine ⟨rfl, full_own ?_ (by simp) (by omega) (by unfold maxLen; omega), hB⟩
      rw [hg]; simp [repL, ints]
end Go.Proofs.YtccmnngeibpcmaaGreat.Tree
/- Numbers in memory; slices.Grow of nothing; slices.Concat of two rows of numbers. -/
namespace Go.Proofs.YtccmnngeibpcmaaGreat.Tree
open Go.ChangeShapes Go.WideShapes Go.ChangeAt Go.RowKit
set_option linter.unusedVariables false
set_option linter.unusedSimpArgs false
set_option maxRecDepth 100000
attribute [local go_sem] Oper.semAt_some
/-- Numbers in memory. -/
def NmsAt (W : World) (v : Value) (xs : List Int) : Prop := ∃ a c, v = .slice a xs.length c ∧ CellsAt W a (ints xs)
theorem NmsAt.later {W W' : World} {v : Value} {xs : List Int} (h : NmsAt W v xs) (hb : Below W.heap.size W W') : NmsAt W' v xs := by
  obtain ⟨a, c, e, h⟩ := h; exact ⟨a, c, e, h.later hb⟩
theorem nms_nil (W : World) : NmsAt W (.slice none 0 0) [] := ⟨none, 0, rfl, .inl rfl⟩
theorem nms_own {W : World} {base : Nat} {v : Value} {xs : List Int} {n : Nat} (h : W.ownsRow base 3 1 v n (ints xs)) : NmsAt W v xs := by
  have hl : xs.length = n := by have := h.1; simpa using this
  subst hl
  exact cells_of_row h
theorem ints_one (xs : List Int) : ∀ u ∈ ints xs, u.oneCell' = true := by
  intro u hu
  obtain ⟨x, _, rfl⟩ := List.mem_map.1 hu
  rfl
theorem grow_nil (n : Nat) (hn : 1 ≤ n) (hlim : n ≤ 1000000) (w : World) :
    Calls Tryz.prog 86 #[.slice none 0 0, .int .i64 n] w fun e w' => ∃ v, e = .returned v ∧ w'.ownsRow w.heap.size 3 1 v 0 [] ∧ Below w.heap.size w w' := by
  obtain ⟨i0, hi, hz0, hz1, hz2⟩ := info_parts Tryz.info3
  have happ := Lib.run_append_nil_zeros (P := Tryz.prog) w 28 3 28 3 i0 (.int .i64 0) .i64 .i64 Tryz.underlying28 Tryz.underlying3 hi hz0 n (by omega) (by omega) (by omega) (by rw [hz2]; omega)
  generalize hcap : grownCap w n 0 3 = cap2 at happ
  have hcapge : n ≤ cap2 := by rw [← hcap]; exact grownCap_ge w _ 0 3
  have hcaple : cap2 ≤ maxLen := by rw [← hcap]; exact grownCap_le_maxLen w _ 0 3 (by unfold maxLen; omega)
  generalize hZ : (Builtin.zeroCells (Value.int .i64 0).cells n ++ Builtin.zeroCells (Value.int .i64 0).cells (cap2 - n)) = Z at happ
  have hZs : Z.size = cap2 := by rw [← hZ]; simp [size_zeroCells, Value.cells]; omega
  have hni : (0 : Int) < n := by omega
  clear hcap hZ
  go_enter Tryz.func86, Tryz.ntmps86
  go_wp2_with (at_builtin; refine Lib.wpList_append_run _ rfl _ _ _ _ rfl _ _ rfl rfl _ _ happ ?_)
  go_ret
  refine ⟨_, rfl, ⟨rfl, .inr ⟨w.heap.size, cap2, Z, rfl, Nat.le_refl _, heap_alloc_new w _, Nat.zero_le _, hcaple, by rw [hZs, Nat.mul_one], rfl⟩⟩, ⟨rfl, rfl, rfl, by simp, fun k hk => Below.heap_alloc w _ k hk⟩⟩
theorem own_ge {W : World} {base : Nat} {e : TypeId} {size n : Nat} {v : Value} {xs : List Value} (h : W.ownsRow base e size v n xs) : ∀ r, v.ownBlock = some r → base ≤ r := by
  intro r hr
  rcases h.2 with ⟨rfl, _⟩ | ⟨g, cap, cur, rfl, hb, _⟩
  · simp [Value.ownBlock] at hr
  · obtain rfl : g = r := by simpa [Value.ownBlock] using hr
    exact hb
/-- Two slices, one behind the other, in a block of their own. -/
theorem two_cells {W : World} {q : Nat} {v1 v2 : Value} (h : W.heap[q]? = some (.cells #[v1, v2] 28 (0, 0))) : W.cell? ⟨q, 0, none⟩ = some v1 ∧ W.cell? ⟨q, 1, none⟩ = some v2 := by
  constructor <;> simp [World.cell?, h]
set_option maxHeartbeats 2000000 in
theorem concat_2 (q : Nat) (v1 v2 : Value) (xs ys : List Int) (hx : xs.length ≤ 1000) (hy : ys.length ≤ 1000) (hy1 : 1 ≤ ys.length) (w : World)
    (hq : w.heap[q]? = some (.cells #[v1, v2] 28 (0, 0))) (h1 : NmsAt w v1 xs) (h2 : NmsAt w v2 ys) :
    Calls Tryz.prog 61 #[.slice (some ⟨q, 0, none⟩) 2 2] w fun e w' => ∃ v, e = .returned v ∧ w'.ownsRow w.heap.size 3 1 v (xs.length + ys.length) (ints (xs ++ ys)) ∧ Below w.heap.size w w' := by
  obtain ⟨a1, c1, rfl, h1⟩ := h1
  obtain ⟨a2, c2, rfl, h2⟩ := h2
  obtain ⟨q0, q1⟩ := two_cells hq
  have hql := (Array.getElem?_eq_some_iff.1 hq).1
  generalize hn1 : xs.length = n1 at *
  generalize hn2 : ys.length = n2 at *
  have hg := grow_nil (n1 + n2) (by omega) (by omega) w
  rw [Int.natCast_add] at hg
  obtain ⟨i0, hi, hz0, hz1, hz2⟩ := info_parts Tryz.info3
  replace hi := Lib.hid hi
  go_enter Tryz.func61, Tryz.ntmps61
  go_wp2
  go_loopw [3, 11] (fun u3 u wr => w = wr ∧ ((u = .int .i64 0 ∧ u3 = .int .i64 0) ∨ (u = .int .i64 1 ∧ u3 = .int .i64 n1) ∨ (u = .int .i64 2 ∧ u3 = .int .i64 ((n1 : Int) + n2)))) (fun _ u _ => 2 - (intOf u).toNat)
  case atStart => exact ⟨rfl, .inl ⟨rfl, rfl⟩⟩
  case round =>
    obtain ⟨rfl, ⟨rfl, rfl⟩ | ⟨rfl, rfl⟩ | ⟨rfl, rfl⟩⟩ := hrel
    · have g0 : ¬ ((n1 : Int) < 0) := by omega
      go_wp2
      go_roundw
      case rel => exact ⟨trivial, .inr (.inl ⟨by go_num, by go_num⟩)⟩
      case measure => simp [intOf]
    · have g0 : ¬ ((n1 : Int) + n2 < 0) := by omega
      go_wp2
      go_roundw
      case rel => exact ⟨trivial, .inr (.inr ⟨by go_num, by go_num⟩)⟩
      case measure => simp [intOf]
    · go_wp2_with ((with_reducible refine hg.mono ?_); rintro e w1 ⟨v, rfl, hown, hB⟩)
      clear hg
      go_loopw [6, 27] (fun u6 u X => Below w.heap.size w X ∧ ((u = .int .i64 0 ∧ X.ownsRow w.heap.size 3 1 u6 0 []) ∨ (u = .int .i64 1 ∧ X.ownsRow w.heap.size 3 1 u6 n1 (ints xs)) ∨ (u = .int .i64 2 ∧ X.ownsRow w.heap.size 3 1 u6 (n1 + n2) (ints (xs ++ ys))))) (fun _ u _ => 2 - (intOf u).toNat)
      case atStart => exact ⟨hB, .inl ⟨rfl, hown⟩⟩
      case round =>
        clear hown hB
        have hB := hrel.1
        have hq' := (hB.block _ hql).trans hq
        have q0' := bcell hB hql q0
        have q1' := bcell hB hql q1
        have h1' := h1.later hB
        have h2' := h2.later hB
        have hsz := hB.size
        clear q0 q1 hq h1 h2
        obtain ⟨-, ⟨rfl, hown2⟩ | ⟨rfl, hown2⟩ | ⟨rfl, hown2⟩⟩ := hrel
        · go_wp2_with (at_builtin; refine wpList_append_cells rfl (.tmp 31) (.tmp 32) 28 rfl w.heap.size 3 i0 (.int .i64 0) 1 8 Tryz.underlying28 hi.out hz0 hz1 hz2 rfl (by decide) u6 0 [] rfl hown2 a1 n1 c1 (ints xs) rfl (by simp [hn1]) h1' (ints_one xs) (by unfold maxLen; omega) (by omega) hsz ?_; intro v6 w6 hown6 hgrow6)
          have hB6 := hB.grown hgrow6 hsz (own_ge hown2)
          refine ⟨⟨hB6, .inr (.inl ⟨rfl, by simpa using hown6⟩)⟩, by simp [intOf]⟩
        · go_wp2_with (at_builtin; refine wpList_append_cells rfl (.tmp 31) (.tmp 32) 28 rfl w.heap.size 3 i0 (.int .i64 0) 1 8 Tryz.underlying28 hi.out hz0 hz1 hz2 rfl (by decide) u6 n1 (ints xs) rfl hown2 a2 n2 c2 (ints ys) rfl (by simp [hn2]) h2' (ints_one ys) (by unfold maxLen; omega) (by omega) hsz ?_; intro v6 w6 hown6 hgrow6)
          have hB6 := hB.grown hgrow6 hsz (own_ge hown2)
          refine ⟨⟨hB6, .inr (.inr ⟨rfl, by simpa using hown6⟩)⟩, by simp [intOf]⟩
        · go_wp2
          go_ret
          exact ⟨_, rfl, hown2, hB⟩
end Go.Proofs.YtccmnngeibpcmaaGreat.Tree
/- A range over a function whose iterator tells values that it makes itself, each known by a relation, and reads memory between two rounds; no round stops it. -/
namespace Go.Proofs.YtccmnngeibpcmaaGreat.Tree
open Go.RowKit
set_option linter.unusedVariables false
variable {F : Fence} {n : Nat} {P : Program}
/-- How the body is left at a place. -/
def rowPostV (B : Nat) (I : Nat → World → Prop) (k : Nat) (W : World) : Exit → Act → World → Prop
  | .normal, _, W' => KeepsFrom B W W' ∧ I k W'
  | _, _, _ => False
/-- The iterator gf at lb tells m values, the one at place k such as V k tells of, as long as Kp is kept between two rounds. -/
def TellsV (F : Fence) (n : Nat) (P : Program) (gf : Nat) (lb : Array Value) (Kp : World → Prop) (m : Nat) (V : Nat → Array Value → World → Prop) (w : World) : Prop :=
  ∀ (l : Nat) (J : Nat → World → Prop) (W : World), Below w.heap.size w W → (∀ k W1, J k W1 → Kp W1) → (∀ k W1 W2, J k W1 → Below W1.heap.size W1 W2 → J k W2) →
    (∀ k, k < m → ∀ xs W1, J k W1 → V k xs W1 → YieldAt F (n - 1) P l xs W1 fun e W' => e = .returned (.bool true) ∧ J (k + 1) W') →
    J 0 W →
    CallsIn F n P gf (#[.func (.yield l) #[] #[]] ++ lb) W fun e W' => (∃ v, e = .returned v) ∧ J m W'
theorem wpIn_rangeFunc_rowV {g : Operand} {ps : Array Tmp} {assign body : Code} {Q : Exit → Act → World → Prop} {a : Act} {w : World}
    (hro : F.round = none) (h1 : 1 ≤ n) {gf : Nat} {lb : Array Value} (hg : a.eval g = .func (.func gf) #[] lb) (hFg : F.fn gf) (eg : ∀ args w, (callFunc gf args).run P w = .ok (.enter gf args) w)
    {Kp : World → Prop} {m : Nat} {V : Nat → Array Value → World → Prop} {w0 : World} (hseq : TellsV F (n - 1) P gf lb Kp m V w0) (hb0 : Below w0.heap.size w0 w) (hps : ∀ k xs W, V k xs W → xs.size = ps.size)
    (I : Nat → World → Prop) (hI : OwnFrom w.heap.size I) (hKp : ∀ k W, I k W → Kp W) (h0 : I 0 w)
    (Ax : Nat → Act → World → Prop) (hAx : ∀ k a', OwnFrom w.heap.size (fun (_ : Unit) W => Ax k a' W))
    (hassign : ∀ (l k : Nat) (xs : Array Value) (W : World) (K : Act → World → Prop), k < m → I k W → V k xs W → (∀ a' W', KeepsFrom w.heap.size W W' → I k W' → Ax k a' W' → K a' W') →
      assign.wpIn (F.inRound l) (n - 1 - 1) P (Exit.then K (fun _ _ _ => False)) { tmps := (ps.zip xs).foldl (fun t (p, v) => t.setIfInBounds p v) a.tmps, defers := [] } W)
    (hbody : ∀ (l k : Nat) (a' : Act) (W : World), k < m → I k W → Ax k a' W → body.wpIn (F.inRound l) (n - 1 - 1) P (rowPostV w.heap.size I (k + 1) W) a' W)
    (hdone : ∀ (D : Nat) (W : World), w.heap.size ≤ D → I m W → W.heap[D]? = some (.deferred (some [])) → Q .normal { a with defers := { target := .collected D, args := #[] } :: a.defers } W) :
    (Code.rangeFunc g ps assign body).wpIn F n P Q a w := by
  refine wpIn_rangeFunc fun fn hfn => ?_
  rw [hro]
  have hD : (w.alloc (.deferred (some []))).heap[w.heap.size]? = some (.deferred (some [])) := World.alloc_heap_new w _
  generalize hlp : (fun st pe => ({ state := st, pending := pe, fn, tmps := a.tmps, params := ps, assign, body, defers := w.heap.size } : Loop)) = lp
  have hlpe : ∀ st pe, lp st pe = { state := st, pending := pe, fn, tmps := a.tmps, params := ps, assign, body, defers := w.heap.size } := fun st pe => by rw [← hlp]
  have hrun := run_enterLoop_outer (P := P) (w := w) fn a.tmps ps assign body
  rw [← hlpe .ready none] at hrun
  have hbel : Below w0.heap.size w0 ((w.alloc (.deferred (some []))).alloc (.loop (lp .ready none))) :=
    hb0.trans ((((Below.refl _ w).alloc (Nat.le_refl _) _).alloc (by simp) _).mono hb0.size)
  have hl0 : ((w.alloc (.deferred (some []))).alloc (.loop (lp .ready none))).heap[w.heap.size + 1]? = some (.loop (lp .ready none)) := by
    have := World.alloc_heap_new (w.alloc (.deferred (some []))) (.loop (lp .ready none)); rwa [World.size_alloc] at this
  have hd0 : ((w.alloc (.deferred (some []))).alloc (.loop (lp .ready none))).heap[w.heap.size]? = some (.deferred (some [])) := (Below.heap_alloc _ _ _ (by simp)).trans hD
  have hi0 : I 0 ((w.alloc (.deferred (some []))).alloc (.loop (lp .ready none))) := hI.alloc _ (hI.alloc _ h0)
  clear hD
  generalize (w.alloc (.deferred (some []))).alloc (.loop (lp .ready none)) = V' at *
  refine ⟨w.heap.size + 1, [{ target := .collected w.heap.size, args := #[] }], V', { target := .fn (.func gf) lb, args := #[.func (.yield (w.heap.size + 1)) #[] #[]] }, V', gf,
    #[.func (.yield (w.heap.size + 1)) #[] #[]] ++ lb, V', hrun, ?_, ?_, ?_, fun _ => h1, ?_⟩
  · simp only [resolve, hg]
    simp [go_sem]
  · intro f' hf'
    simp [Target.leads] at hf'
    exact hf' ▸ hFg
  · simp [invoke, go_sem, eg]
  refine (hseq (w.heap.size + 1)
    (fun k W => I k W ∧ W.heap[w.heap.size + 1]? = some (.loop (lp .ready none)) ∧ W.heap[w.heap.size]? = some (.deferred (some [])))
    V' hbel (fun k W h => hKp k W h.1) (fun k W W2 h hb => ⟨hI k W W2 none h.1 (grown_of_below hb) (fun r e => by cases e), (hb.block _ (Array.getElem?_eq_some_iff.1 h.2.1).1).trans h.2.1, (hb.block _ (Array.getElem?_eq_some_iff.1 h.2.2).1).trans h.2.2⟩) ?round ⟨hi0, hl0, hd0⟩).mono ?behind
  case round =>
    rintro k hk xs W0 ⟨hi, hl, hd⟩ hV
    have hy := run_yield (P := P) (args := xs) hl (by rw [hlpe]; exact hps k xs W0 hV)
    rw [hlpe] at hy
    refine ⟨fn, _, assign, body, hy, roundIn_of_wpIn hfn (hassign _ k xs W0 _ hk hi hV ?_)⟩
    intro a' W hkf hia hax
    replace hl := hkf.same _ _ (by omega) hl rfl
    replace hd := hkf.same _ _ (Nat.le_refl _) hd rfl
    clear hi hkf hy hV
    have hi := hia
    refine ⟨_, run_beginRound hl (by rw [hlpe]), ?_⟩
    have hlt := (Array.getElem?_eq_some_iff.1 hl).1
    have hl' := World.putObj_heap_same (w := W) (o := .loop { lp .ready none with state := .busy }) hlt
    have hd' : (W.putObj (w.heap.size + 1) (.loop { lp .ready none with state := .busy })).heap[w.heap.size]? = some (.deferred (some [])) := (World.putObj_heap_other (by omega)).trans hd
    have hi' := hI.putObj (.loop { lp .ready none with state := .busy }) hi (by omega) hl rfl
    have hax' := (hAx k a').putObj (s := ()) (.loop { lp .ready none with state := .busy }) hax (by omega) hl rfl
    generalize W.putObj (w.heap.size + 1) (.loop { lp .ready none with state := .busy }) = W2 at *
    refine wpIn_mono (hbody _ k a' W2 hk hi' hax') ?_
    rintro e a3 W3 hp
    cases e with
    | normal =>
      have h3 := hp.1.same _ _ (by omega) hl' rfl
      have h3d := hp.1.same _ _ (Nat.le_refl _) hd' rfl
      have hr := run_endRound (P := P) none h3
      refine ⟨_, _, hr, rfl, hI.putObj _ hp.2 (by omega) h3 rfl, ?_, (World.putObj_heap_other (by omega)).trans h3d⟩
      rw [World.putObj_heap_same (Array.getElem?_eq_some_iff.1 h3).1, hlpe]
      rfl
    | ret => exact hp.elim
    | exit id => exact hp.elim
    | goto t => exact hp.elim
    | panic ch => exact hp.elim
    | outgrown => exact hp.elim
  case behind =>
    rintro e W2 ⟨⟨v, rfl⟩, hi, hl, hd⟩
    have hr := run_endLoop (P := P) hl (by rw [hlpe]; simp)
    rw [hlpe] at hr
    exact ⟨none, _, hr, hdone _ _ (Nat.le_refl _) (hI.putObj _ hi (by omega) hl rfl) ((World.putObj_heap_other (by omega)).trans hd)⟩
end Go.Proofs.YtccmnngeibpcmaaGreat.Tree
/- Rows of rows in memory; further and its iterator: a row more for each number of times. -/
namespace Go.Proofs.YtccmnngeibpcmaaGreat.Tree
open Go.ChangeShapes Go.WideShapes Go.ChangeAt Go.RowKit
set_option linter.unusedVariables false
set_option linter.unusedSimpArgs false
set_option maxRecDepth 100000
attribute [local go_sem] Oper.semAt_some
/-- Rows of numbers in memory, their slices' values told. -/
def RowsV (W : World) (v : Value) (vs : List Value) (R : List (List Int)) : Prop :=
  (∃ (a : Option Addr) (c : Nat), v = .slice a R.length c ∧ CellsAt W a vs) ∧ vs.length = R.length ∧ ∀ (k : Nat) (u : Value) (r : List Int), vs[k]? = some u → R[k]? = some r → NmsAt W u r
def RowsAt (W : World) (v : Value) (R : List (List Int)) : Prop := ∃ vs, RowsV W v vs R
theorem RowsV.later {W W' : World} {v : Value} {vs : List Value} {R : List (List Int)} (h : RowsV W v vs R) (hb : Below W.heap.size W W') : RowsV W' v vs R := by
  obtain ⟨⟨a, c, e, h1⟩, hl, h2⟩ := h
  exact ⟨⟨a, c, e, h1.later hb⟩, hl, fun k u r hu hr => (h2 k u r hu hr).later hb⟩
theorem RowsAt.later {W W' : World} {v : Value} {R : List (List Int)} (h : RowsAt W v R) (hb : Below W.heap.size W W') : RowsAt W' v R := by
  obtain ⟨vs, h⟩ := h; exact ⟨vs, h.later hb⟩
theorem RowsV.at {W : World} {v : Value} {vs : List Value} {R : List (List Int)} (h : RowsV W v vs R) {k : Nat} {r : List Int} (hr : R[k]? = some r) : ∃ u, vs[k]? = some u ∧ NmsAt W u r := by
  have hk := (List.getElem?_eq_some_iff.1 hr).1
  obtain ⟨u, hu⟩ : ∃ u, vs[k]? = some u := ⟨_, List.getElem?_eq_getElem (by rw [h.2.1]; exact hk)⟩
  exact ⟨u, hu, h.2.2 k u r hu hr⟩
theorem RowsV.cell {W : World} {a : Option Addr} {n c : Nat} {vs : List Value} {R : List (List Int)} (h : RowsV W (.slice a n c) vs R) {k : Nat} {u : Value} (hu : vs[k]? = some u) :
    ∃ b o, a = some ⟨b, o, none⟩ ∧ W.cell? ⟨b, o + k, none⟩ = some u := by
  obtain ⟨⟨a', c', e, h1⟩, hl, h2⟩ := h
  obtain ⟨rfl, rfl⟩ : a = a' ∧ c = c' := by cases e; exact ⟨rfl, rfl⟩
  rcases h1 with rfl | ⟨b, o, rfl, h1⟩
  · simp at hu
  · exact ⟨b, o, rfl, h1 k u hu⟩
/-- Rows with a step more, so many times as it may come. -/
def furL (R : List (List Int)) (i : Int) (mn c : Nat) : List (List Int) := R.flatMap fun r => (List.range c).map fun k => r ++ List.replicate (mn + k) i
theorem furL_len (R : List (List Int)) (i : Int) (mn c : Nat) : (furL R i mn c).length = R.length * c := by
  unfold furL
  induction R with
  | nil => simp
  | cons r R ih => rw [List.flatMap_cons, List.length_append, ih]; simp [Nat.succ_mul]; omega
theorem furL_at (R : List (List Int)) (i : Int) (mn c j b : Nat) (r : List Int) (hr : R[j]? = some r) (hb : b < c) : (furL R i mn c)[j * c + b]? = some (r ++ List.replicate (mn + b) i) := by
  unfold furL
  induction R generalizing j with
  | nil => simp at hr
  | cons r' R ih =>
    rw [List.flatMap_cons]
    cases j with
    | zero =>
      simp at hr; subst hr
      rw [Nat.zero_mul, Nat.zero_add, List.getElem?_append_left (by simpa using hb)]
      simp [hb]
    | succ j =>
      rw [List.getElem?_append_right (by simp [Nat.succ_mul]; omega)]
      have := ih j (by simpa using hr)
      rw [← this]
      congr 1
      simp [Nat.succ_mul]; omega
/-- What further's iterator reads: rows, a step, its number, each in a box. -/
def FurIn (B1 B2 B3 : Nat) (rv : Value) (vs : List Value) (R : List (List Int)) (s : Sp) (sv : Value) (i : Int) (W : World) : Prop :=
  W.heap[B1]? = some (.cells #[rv] 34 (0, 0)) ∧ SpBox B2 s sv W ∧ W.heap[B3]? = some (.cells #[.int .i64 i] 3 (0, 0)) ∧ RowsV W rv vs R
theorem FurIn.later {B1 B2 B3 : Nat} {rv : Value} {vs : List Value} {R : List (List Int)} {s : Sp} {sv : Value} {i : Int} {W W' : World} (h : FurIn B1 B2 B3 rv vs R s sv i W) (hb : Below W.heap.size W W') : FurIn B1 B2 B3 rv vs R s sv i W' :=
  ⟨(hb.block _ (Array.getElem?_eq_some_iff.1 h.1).1).trans h.1, h.2.1.later hb, (hb.block _ (Array.getElem?_eq_some_iff.1 h.2.2.1).1).trans h.2.2.1, h.2.2.2.later hb⟩
theorem further_any (a : Option Addr) (n c : Nat) (sv : Value) (i : Int) (s : Sp) (w : World) :
    Calls Tryz.prog 44 #[.slice a n c, .int .i64 i, spV s sv] w fun e w' => e = .returned (.func (.func 60) #[] #[ptr w.heap.size, ptr (w.heap.size + 2), ptr (w.heap.size + 1)]) ∧
      w' = ((w.alloc (.cells #[.slice a n c] 34)).alloc (.cells #[.int .i64 i] 3)).alloc (.cells #[.bool s.neg, .int .i64 s.kind, .int .i64 s.min, .int .i64 s.max, .bool s.strict, sv] 45) := by
  go_enter Tryz.func44, Tryz.ntmps44
  go_wp2
  go_ret
  exact ⟨rfl, rfl⟩
/-- What is told at a place. -/
def FurV (base : Nat) (R : List (List Int)) (i : Int) (mn c : Nat) (k : Nat) (xs : Array Value) (W : World) : Prop :=
  ∃ v r, xs = #[v] ∧ (furL R i mn c)[k]? = some r ∧ W.ownsRow base 3 1 v r.length (ints r)
theorem cell_new1 (w : World) (v : Value) (t : TypeId) : (w.alloc (.cells #[v] t)).cell? ⟨w.heap.size, 0, none⟩ = some v := by
  exact (cell_one_new w v t 0 v rfl)
theorem fur_done (base : Nat) {W : World} {R : List (List Int)} {i : Int} {mn c j b t : Nat} {r : List Int} {v : Value} (hr : R[j]? = some r) (hb : b < c) (ht : t = mn + b) (h : W.ownsRow base 3 1 v (r.length + t) (ints (r ++ List.replicate t i))) :
    FurV base R i mn c (j * c + b) #[v] W := by
  subst ht
  exact ⟨v, _, rfl, furL_at R i mn c j b r hr hb, by simpa using h⟩
set_option maxHeartbeats 2000000 in
theorem fur_tells (N B1 B2 B3 : Nat) (hN : 1 ≤ N) (rv sv : Value) (vs : List Value) (R : List (List Int)) (s : Sp) (i : Int) (mn c : Nat) (hmn : s.min = mn) (hc : s.max + 1 = mn + c) (hmn1 : 1 ≤ mn) (h3 : mn + c ≤ 4) (hR : R.length ≤ 1000000) (hRr : ∀ r ∈ R, r.length ≤ 1000) (w : World) :
    TellsV Fence.wide N Tryz.prog 60 #[ptr B1, ptr B2, ptr B3] (FurIn B1 B2 B3 rv vs R s sv i) (furL R i mn c).length (FurV B1 R i mn c) w := by
  intro l J W hW hK hDr hY h0
  rw [furL_len R i mn c] at *
  clear hW
  have k0 : W.cell? ⟨B1, 0, none⟩ = some rv := by have := (hK _ _ h0).1; simp [World.cell?, this]
  obtain ⟨a, cp, rfl, -⟩ := (hK _ _ h0).2.2.2.1
  replace hY := Lib.hid hY
  replace hDr := Lib.hid hDr
  replace hK := Lib.hid hK
  generalize hn : R.length = n at *
  refine callsIn_of_wp Tryz.func60 rfl trivial ?_ rfl
  simp only [Tryz.ntmps60, List.size_toArray, List.length_cons, List.length_nil, Nat.reduceAdd, Nat.reduceSub, Array.replicate_succ, Array.replicate_zero, List.push_toArray, List.append_toArray, List.nil_append, List.cons_append]
  gi_wp2_with fail
  clear k0
  gi_loopw [10] (fun u wr => ∃ j : Nat, j ≤ n ∧ u = .int .i64 j ∧ J (j * c) wr) (fun u _ => n - (intOf u).toNat)
  case atStart => exact ⟨0, Nat.zero_le _, rfl, by rw [Nat.zero_mul]; exact h0⟩
  case round =>
    clear h0
    obtain ⟨j, hj, rfl, hJs⟩ := hrel
    by_cases hlt : j < n
    · have hlti : (j : Int) < n := by omega
      obtain ⟨r, hr⟩ : ∃ r, R[j]? = some r := ⟨_, List.getElem?_eq_getElem (by omega)⟩
      obtain ⟨u, hu, -⟩ := (hK.out _ _ hJs).2.2.2.at hr
      obtain ⟨b, o, rfl, hcell⟩ := (hK.out _ _ hJs).2.2.2.cell hu
      obtain ⟨p0, p1, p2, p3, p4, p5⟩ := (hK.out _ _ hJs).2.1.cells
      have hmi : (mn : Int) ≤ 4 := by omega
      rw [hmn] at p2
      have hlr := hRr r (List.mem_of_getElem? hr)
      have hjc : j * c + c ≤ n * c := by rw [← Nat.succ_mul]; exact Nat.mul_le_mul_right c hlt
      replace hr := Lib.hid hr
      replace hu := Lib.hid hu
      gi_wp2_with fail
      clear hcell p0 p1 p2 p3 p4 p5
      gi_loopw [7] (fun u7 wr => ∃ t : Nat, mn ≤ t ∧ t ≤ mn + c ∧ u7 = .int .i64 t ∧ J (j * c + (t - mn)) wr) (fun u7 _ => (mn + c) - (intOf u7).toNat)
      case atStart => exact ⟨mn, Nat.le_refl _, by omega, rfl, by rw [Nat.sub_self]; exact hJs⟩
      case round =>
        clear hJs
        obtain ⟨t, ht1, ht2, rfl, hJ⟩ := hrel
        have hF := hK.out _ _ hJ
        obtain ⟨p0, p1, p2, p3, p4, p5⟩ := hF.2.1.cells
        by_cases hle : (t : Int) ≤ s.max
        · have k3 : wr.cell? ⟨B3, 0, none⟩ = some (.int .i64 i) := by have := hF.2.2.1; simp [World.cell?, this]
          obtain ⟨v1, c1, rfl, hnc⟩ := hF.2.2.2.2.2 j u r hu.out hr.out
          have hk1 := kept_new wr (.cells #[.int .i64 i] 3)
          have hrep := Lib.hid (repeat_1 t (wr.heap.size + 1) i wr.heap.size (by omega) (by omega) (wr.alloc (.cells #[.int .i64 i] 3)) (by simp) (cell_new1 _ _ _))
          have hBl := (Array.getElem?_eq_some_iff.1 hF.1).1
          clear hF
          gi_wp2_with fail
          refine ⟨trivial, ((callsIn_wide (n := N - 1)).2 hrep.out).mono ?_⟩
          rintro e w2 ⟨rfl, hown2, hB2⟩
          clear hrep
          have hB2' : Below wr.heap.size wr w2 := hk1.trans (hB2.mono (by omega))
          have hk3 := kept_new w2 (.cells #[.slice v1 r.length c1, .slice (some ⟨wr.heap.size + 1, 0, none⟩) t t] 28)
          have hcon := concat_2 w2.heap.size (.slice v1 r.length c1) (.slice (some ⟨wr.heap.size + 1, 0, none⟩) t t) r (List.replicate t i) (by omega) (by simp; omega) (by simp; omega) (w2.alloc (.cells #[.slice v1 r.length c1, .slice (some ⟨wr.heap.size + 1, 0, none⟩) t t] 28)) (heap_alloc_new w2 _) ((show NmsAt wr (.slice v1 r.length c1) r from ⟨v1, c1, rfl, hnc⟩).later (kept_trans hB2' hk3)) ((nms_own hown2).later hk3)
          rw [List.length_replicate] at hcon
          replace hcon := Lib.hid hcon
          replace hown2 := Lib.hid hown2
          replace hB2 := Lib.hid hB2
          gi_wp2_with fail
          refine ⟨trivial, ((callsIn_wide (n := N - 1)).2 hcon.out).mono ?_⟩
          rintro e w4 ⟨v4, rfl, hown4, hB4⟩
          have hsz4 : wr.heap.size ≤ w2.heap.size := hB2'.size
          have hV := fur_done B1 (mn := mn) (c := c) (b := t - mn) hr.out (by omega) (by omega) (row_base hown4 (by simp; omega))
          have hJ4 := hDr.out _ _ _ hJ (kept_trans (kept_trans hB2' hk3) hB4)
          have Y0 := hY.out (j * c + (t - mn)) (by omega) _ w4 hJ4 hV
          have hnx : Hid (j * c + (t - mn) + 1 = j * c + (t + 1 - mn)) := by show _ = _; omega
          clear hV hJ4 hown4 hB4 hk3 hk1 hB2' hcon hown2 hB2 hnc hJ p0 p1 p2 p3 p4 p5 k3 hr hu hDr hK hY
          obtain ⟨fn, tmps, assign, body, hy, hR⟩ := Y0
          gi_wp2
          refine hR.mono ?_
          rintro e W3 ⟨rfl, hJ5⟩
          gi_wp2
          go_roundw
          case rel => exact ⟨t + 1, by omega, by omega, by go_num, by rw [← hnx.out]; exact hJ5⟩
          case measure => simp [intOf]; omega
        · obtain rfl : t = mn + c := by omega
          have hnx : J ((j + 1) * c) wr := by rw [Nat.add_sub_cancel_left, ← Nat.succ_mul] at hJ; exact hJ
          gi_wp2
          go_roundw
          case rel => exact ⟨j + 1, hlt, by go_num, hnx⟩
          case measure => simp [intOf]; omega
    · obtain rfl : j = n := by omega
      gi_wp2
      go_end0
      exact ⟨⟨_, rfl⟩, hJs⟩
end Go.Proofs.YtccmnngeibpcmaaGreat.Tree
/- slices.Collect of further's rows. -/
namespace Go.Proofs.YtccmnngeibpcmaaGreat.Tree
open Go.ChangeShapes Go.WideShapes Go.ChangeAt Go.RowKit
set_option linter.unusedVariables false
set_option linter.unusedSimpArgs false
set_option maxRecDepth 100000
attribute [local go_sem] Oper.semAt_some
/-- Each of these slices is a row of memory of its own. -/
def EachOwn (W : World) (base : Nat) (vs : List Value) (R : List (List Int)) : Prop := ∀ (i : Nat) (u : Value) (r : List Int), vs[i]? = some u → R[i]? = some r → W.ownsRow base 3 1 u r.length (ints r)
/-- Rows in memory of their own. -/
def OwnRows (W : World) (base : Nat) (v : Value) (R : List (List Int)) : Prop := ∃ vs, W.ownsRow base 28 1 v R.length vs ∧ EachOwn W base vs R
theorem EachOwn.kept {W W' : World} {base : Nat} {vs : List Value} {R : List (List Int)} {row : Option Nat} (h : EachOwn W base vs R) (hg : W.grownBy W' row) (hrow : ∀ r, row = some r → ∃ o : Obj, W.heap[r]? = some o ∧ ∀ cs fz, o ≠ .cells cs 3 fz) : EachOwn W' base vs R := fun i u r hu hr => row_kept (h i u r hu hr) hg hrow
theorem EachOwn.later {W W' : World} {base : Nat} {vs : List Value} {R : List (List Int)} (h : EachOwn W base vs R) (hb : Below W.heap.size W W') : EachOwn W' base vs R := fun i u r hu hr => row_later (h i u r hu hr) hb
theorem OwnRows.later {W W' : World} {base : Nat} {v : Value} {R : List (List Int)} (h : OwnRows W base v R) (hb : Below W.heap.size W W') : OwnRows W' base v R := by
  obtain ⟨vs, h1, h2⟩ := h; exact ⟨vs, row_later h1 hb, h2.later hb⟩
theorem OwnRows.base {W : World} {base b : Nat} {v : Value} {R : List (List Int)} (h : OwnRows W base v R) (hb : b ≤ base) : OwnRows W b v R := by
  obtain ⟨vs, h1, h2⟩ := h; exact ⟨vs, row_base h1 hb, fun i u r hu hr => row_base (h2 i u r hu hr) hb⟩
theorem OwnRows.at {W : World} {base : Nat} {v : Value} {R : List (List Int)} (h : OwnRows W base v R) : RowsAt W v R := by
  obtain ⟨vs, h1, h2⟩ := h
  have hl : vs.length = R.length := by have := h1.1; simpa using this
  obtain ⟨a, c, rfl, h3⟩ := cells_of_row h1
  exact ⟨vs, ⟨a, c, rfl, h3⟩, hl, fun k u r hu hr => nms_own (h2 k u r hu hr)⟩
/-- What the loop over the iterator has. -/
def AsI (w : World) (B1 : Nat) (R : List (List Int)) (k : Nat) (W : World) : Prop :=
  ∃ v vs, Boxed W w.heap.size 34 v ∧ W.ownsRow w.heap.size 28 1 v k vs ∧ EachOwn W B1 vs R ∧ Below w.heap.size w W
theorem AsI.own (w : World) (B1 : Nat) (R : List (List Int)) (B : Nat) (hB : w.heap.size ≤ B) : OwnFrom B (AsI w B1 R) := by
  rintro k X Y row ⟨v, vs, h1, h2, h3, h4⟩ hg hrow
  have hrow' : ∀ r, row = some r → ∃ o : Obj, X.heap[r]? = some o ∧ o.isCells = false := fun r e => (hrow r e).2
  refine ⟨v, vs, boxed_own w.heap.size 34 (fun _ : Unit => v) () X Y row h1 hg hrow', row_kept h2 hg (fun r e => ?_), h3.kept hg (fun r e => ?_), ownFrom_below (Nat.le_refl _) hB k X Y row h4 hg hrow⟩
  · obtain ⟨o, ho, hc⟩ := hrow' r e
    exact ⟨o, ho, no_cells hc 28⟩
  · obtain ⟨o, ho, hc⟩ := hrow' r e
    exact ⟨o, ho, no_cells hc 3⟩
def AsStep (w W : World) (B1 : Nat) (F : List (List Int)) (k : Nat) (v : Value) (us : List Value) (u : Value) (B : Nat) : Prop :=
  ∀ (w1 : World) (v' : Value) (tmp : Obj), w1.ownsRow w.heap.size 28 1 v' (k + 1) (us ++ [u]) → (W.alloc tmp).grownBy w1 v.ownBlock →
    KeepsFrom B W (w1.setCell ⟨w.heap.size, 0, none⟩ v') ∧ AsI w B1 F (k + 1) (w1.setCell ⟨w.heap.size, 0, none⟩ v')
theorem AsI.next {w W : World} {B1 : Nat} {F : List (List Int)} {k : Nat} {v : Value} {us : List Value} {u : Value} {r : List Int}
    (hv : Boxed W w.heap.size 34 v) (ho : W.ownsRow w.heap.size 28 1 v k us) (he : EachOwn W B1 us F) (hB : Below w.heap.size w W) (hr : F[k]? = some r) (hu : W.ownsRow B1 3 1 u r.length (ints r)) (B : Nat) : AsStep w W B1 F k v us u B := by
  intro w1 v' tmp hown' hgrow
  have hg1 : W.grownBy (W.alloc tmp) none := World.grownBy_alloc W _ none
  obtain ⟨hv1, hv2, hr2, hk2, hb2⟩ := hv.appended (by decide) ho hB.size (by omega) hown' hgrow
  have key : ∀ (x : Value) (q : List Int), W.ownsRow B1 3 1 x q.length (ints q) → (w1.setCell ⟨w.heap.size, 0, none⟩ v').ownsRow B1 3 1 x q.length (ints q) := fun x q hq =>
    row_kept (row_kept (hq.alloc tmp) hgrow (own_is (ho.alloc tmp) 3 (by decide))) (grownBy_setCell_any w1 w.heap.size 0 v') (box_is hv1 3 (by decide))
  refine ⟨hk2.from _, v', us ++ [u], hv2, hr2, fun i x q hx hq => ?_, hB.trans hb2⟩
  have hl : us.length = k := by have := ho.1; simpa using this
  by_cases hi : i < k
  · rw [List.getElem?_append_left (by omega)] at hx
    exact key x q (he i x q hx hq)
  · rw [List.getElem?_append_right (by omega)] at hx
    have e : i - us.length = 0 := by
      have := (List.getElem?_eq_some_iff.1 hx).1
      simp at this; omega
    rw [e] at hx
    have e2 : i = k := by omega
    subst e2
    simp at hx
    subst hx
    rw [hr] at hq; cases hq
    exact key u r hu
theorem Tryz.info28 : (Tryz.prog.info? 28).map (fun i => (i.zero, i.size, i.bytes)) = some (some (.slice none 0 0), 1, 24) := by kernel_rfl
set_option maxHeartbeats 2000000 in
theorem appendSeq_fur (B1 B2 B3 : Nat) (rv sv : Value) (vs : List Value) (R : List (List Int)) (s : Sp) (i : Int) (mn c : Nat) (hmn : s.min = mn) (hc : s.max + 1 = mn + c) (hmn1 : 1 ≤ mn) (h3 : mn + c ≤ 4) (hR : R.length ≤ 1000000) (hRr : ∀ r ∈ R, r.length ≤ 1000) (w : World) (h : FurIn B1 B2 B3 rv vs R s sv i w) :
    Calls Tryz.prog 59 #[.slice none 0 0, .func (.func 60) #[] #[ptr B1, ptr B2, ptr B3]] w fun e w' => ∃ v, e = .returned v ∧ OwnRows w' B1 v (furL R i mn c) ∧ Below w.heap.size w w' := by
  refine (callsIn_wide (n := 9)).1 ?_
  refine callsIn_of_wp_marks Tryz.func59 rfl trivial ?_ rfl
  rw [wpIn_wide]
  simp only [Tryz.ntmps59, List.size_toArray, List.length_cons, List.length_nil, Nat.reduceAdd, Nat.reduceSub, Array.replicate_succ, Array.replicate_zero, List.push_toArray, List.append_toArray, List.nil_append, List.cons_append]
  go_wp2
  refine (wpIn_wide (n := 9)).1 ?_
  have hFa : FurIn B1 B2 B3 rv vs R s sv i (w.alloc (.cells #[.slice none 0 0] 34)) := h.later (kept_new _ _)
  have hI0 : AsI w B1 (furL R i mn c) 0 (w.alloc (.cells #[.slice none 0 0] 34)) := ⟨.slice none 0 0, [], Boxed.new w 34 _, by simpa using World.ownsRow_nil _ _ _ _, fun i u r hu => by simp at hu, kept_new _ _⟩
  have hB1 := (Array.getElem?_eq_some_iff.1 h.1).1
  have hlen := furL_len R i mn c
  have hc4 : R.length * c ≤ 1000000 * 4 := Nat.mul_le_mul hR (by omega)
  generalize hW0 : w.alloc (.cells #[.slice none 0 0] 34) = W0 at *
  have hs0 : W0.heap.size = w.heap.size + 1 := by rw [← hW0]; simp
  obtain ⟨i0, hi, hz0, hz1, hz2⟩ := info_parts Tryz.info28
  replace hi := Lib.hid hi
  refine wpIn_rangeFunc_rowV rfl (by omega) (gf := 60) (lb := #[ptr B1, ptr B2, ptr B3]) rfl trivial (enters_of Tryz.func60 (by kernel_rfl) rfl)
    (fur_tells 8 B1 B2 B3 (by omega) rv sv vs R s i mn c hmn hc hmn1 h3 hR hRr W0) (Below.refl _ _) (fun k xs W hV => by obtain ⟨v, r, rfl, -⟩ := hV; rfl)
    (AsI w B1 (furL R i mn c)) (AsI.own w B1 _ _ (by omega)) (fun k W hI => h.later hI.choose_spec.choose_spec.2.2.2)
    hI0
    (fun k a' W => ∃ (u : Value) (r : List Int), (furL R i mn c)[k]? = some r ∧ W.ownsRow B1 3 1 u r.length (ints r) ∧
      a' = { tmps := #[.slice none 0 0, .func (.func 60) #[] #[ptr B1, ptr B2, ptr B3], ptr w.heap.size, undef, .slice none 0 0, u, .func (.func 60) #[] #[ptr B1, ptr B2, ptr B3], u, undef, undef, undef, undef, undef], defers := [] })
    ?ax ?assign ?body ?done
  case ax =>
    rintro k a' ⟨⟩ X Y row ⟨u, r, h1, h2, h4⟩ hg hrow
    exact ⟨u, r, h1, row_kept h2 hg (fun r e => by obtain ⟨o, ho, hc⟩ := (hrow r e).2; exact ⟨o, ho, no_cells hc 3⟩), h4⟩
  case assign =>
    rintro l k xs W K hk hI ⟨u, r, rfl, hr, hu⟩ hK
    gi_wp2
    exact hK _ _ (KeepsFrom.refl _ _) hI ⟨u, r, hr, hu, rfl⟩
  case body =>
    rintro l k a' W hk ⟨v, us, hv, ho, he, hB⟩ ⟨u, r, hr, hu, rfl⟩
    have hcv := hv.cell
    have hfv := hv.frozen
    obtain ⟨a0, c0, rfl, -⟩ := nms_own hu
    generalize hrl : r.length = m0 at *
    have hlu : us.length = k := by have := ho.1; simpa using this
    have H := AsI.next hv ho he hB hr (by rw [hrl]; exact hu) W0.heap.size
    clear he hu h hFa hI0 hW0
    gi_wp2_with (gi_at_builtin; refine wpListIn_append_own _ rfl _ _ 34 rfl w.heap.size 28 i0 (.slice none 0 0) 1 24 Tryz.underlying34 hi.out hz0 hz1 hz2 rfl (by decide) _ _ _ rfl (ho.alloc _) ⟨W.heap.size, 0, none⟩ 1 1 [.slice a0 m0 c0] rfl rfl (cell_one_new _ _ _) (by simp [Value.oneCell']) (by unfold maxLen; omega) (by omega) (by have := hB.size; simp; omega) ?_; intro v' w1 hown' hgrow _; have hvv := hv.appended (by decide) ho hB.size (by omega) hown' hgrow; have hcv1 := hvv.1.cell; have hfv1 := hvv.1.frozen; clear hvv; obtain ⟨g', cap', rfl⟩ := ownsRow_succ hown')
    exact H _ _ _ hown' hgrow
  case done =>
    rintro D W hD ⟨v, us, hv, ho, he, hB⟩ hK
    have hcv := hv.cell
    have hDw : w.heap.size ≤ D := by omega
    go_wp2
    refine ⟨by simp, .inl ⟨_, _, rfl, run_takeDeferred hK, ?_⟩⟩
    refine ⟨_, results_tmp rfl _ _ _, v, rfl, ⟨us, ownsRow_putObj (row_base ho (by omega)) _ hK rfl, fun i x q hx hq => ownsRow_putObj (he i x q hx hq) _ hK rfl⟩, hB.trans (belowK_b (w := w) (Nat.le_refl _) W D _ (.deferred none) hDw hK rfl rfl)⟩
end Go.Proofs.YtccmnngeibpcmaaGreat.Tree
/- A pattern's rows as Lean lists; what is known of patterns that may be. -/
namespace Go.Proofs.YtccmnngeibpcmaaGreat.Tree
open Go.ChangeShapes Go.WideShapes Go.ChangeAt Go.RowKit
set_option linter.unusedVariables false
set_option linter.unusedSimpArgs false
set_option maxRecDepth 100000
/-- What is known of a pattern that may be. -/
structure GoodP (ss : List Sp) : Prop where
  len1 : 1 ≤ ss.length
  len6 : ss.length ≤ 6
  first : ∀ s, ss[0]? = some s → s.neg = false
  pos : ∀ s ∈ ss, s.neg = false → 1 ≤ s.min ∧ s.min ≤ s.max ∧ s.max ≤ 3
  most : mostP ss ≤ 4
theorem may_right {ss : List Sp} {win : Int} (h : mayB ss win = true) : rightP ss win = true ∧ ∀ k, k < 7 → KeptAll ss win k := by
  unfold mayB at h
  cases hr : rightP ss win with
  | false => rw [show checkT ss win = (0, 0, 2) from by unfold checkT; simp [hr]] at h; simp at h
  | true =>
    refine ⟨rfl, ?_⟩
    rcases checkT_cases hr with ⟨-, h2⟩ | ⟨k, i, e, -⟩
    · exact h2
    · rw [e] at h; simp at h
theorem may_good {ss : List Sp} {win : Int} (h : mayB ss win = true) : GoodP ss := by
  obtain ⟨hr, hk⟩ := may_right h
  obtain ⟨h1, -, -, -⟩ := rightP_parts hr
  have h0 : ss[0]? = some (stepA ss 0) := stepA_in (by omega)
  refine ⟨h1, ?_, ?_, ?_, ?_⟩
  · have := hk 0 (by omega) 0 _ h0
    simp [ruleB] at this; exact this.1
  · intro s hs
    have := hk 1 (by omega) 0 s hs
    simp [ruleB] at this; exact this.1
  · intro s hs hn
    obtain ⟨i, hi⟩ := List.getElem?_of_mem hs
    have := hk 4 (by omega) i s hi
    simp [ruleB, rule5, hn] at this
    exact ⟨this.1.1, this.1.2, this.2⟩
  · have := hk 5 (by omega) 0 _ h0
    simpa [ruleB] using this
/-- The positive steps with their numbers. -/
def posS : List Sp → Nat → List (Nat × Sp)
  | [], _ => []
  | s :: r, i => if s.neg then posS r (i + 1) else (i, s) :: posS r (i + 1)
theorem posS_fst (ss : List Sp) (i : Nat) : (posS ss i).map (fun x => (x.1 : Int)) = posF ss i := by
  induction ss generalizing i with
  | nil => rfl
  | cons s r ih =>
    simp only [posS, posF]
    split
    · exact ih _
    · rw [List.map_cons, ih]
theorem posS_append (A B : List Sp) (i : Nat) : posS (A ++ B) i = posS A i ++ posS B (i + A.length) := by
  induction A generalizing i with
  | nil => simp [posS]
  | cons x r ih =>
    rw [List.cons_append]
    simp only [posS, ih, List.length_cons]
    rw [show i + (r.length + 1) = i + 1 + r.length by omega]
    split <;> rfl
theorem posS_mem {ss : List Sp} {b : Nat} {x : Nat × Sp} (h : x ∈ posS ss b) : b ≤ x.1 ∧ ss[x.1 - b]? = some x.2 ∧ x.2.neg = false := by
  induction ss generalizing b with
  | nil => simp [posS] at h
  | cons s r ih =>
    have key : x ∈ posS r (b + 1) → b ≤ x.1 ∧ (s :: r)[x.1 - b]? = some x.2 ∧ x.2.neg = false := fun h => by
      obtain ⟨h1, h2, h3⟩ := ih h
      refine ⟨by omega, ?_, h3⟩
      rw [show x.1 - b = (x.1 - (b + 1)) + 1 by omega, List.getElem?_cons_succ]
      exact h2
    cases hn : s.neg with
    | true => simp [posS, hn] at h; exact key h
    | false =>
      simp [posS, hn] at h
      rcases h with rfl | h
      · simp [hn]
      · exact key h
theorem posS_sum (ss : List Sp) (i : Nat) : ((posS ss i).map (fun x => within x.2.max)).sum = mostP ss := by
  unfold mostP sumF
  induction ss generalizing i with
  | nil => rfl
  | cons s r ih =>
    simp only [posS, List.map_cons, List.sum_cons]
    split
    · rename_i h; simp [h, ih]
    · rename_i h; simp [h, ih]
theorem len_le_sum (l : List Int) (h : ∀ x ∈ l, 1 ≤ x) : (l.length : Int) ≤ l.sum := by
  induction l with
  | nil => simp
  | cons x r ih =>
    have := ih fun y hy => h y (List.mem_cons_of_mem _ hy)
    have := h x List.mem_cons_self
    simp only [List.length_cons, List.sum_cons]; omega
theorem GoodP.at {ss : List Sp} (h : GoodP ss) {x : Nat × Sp} (hx : x ∈ posS ss 0) : ss[x.1]? = some x.2 ∧ x.2.neg = false ∧ 1 ≤ x.2.min ∧ x.2.min ≤ x.2.max ∧ x.2.max ≤ 3 := by
  obtain ⟨-, h2, h3⟩ := posS_mem hx
  rw [Nat.sub_zero] at h2
  exact ⟨h2, h3, h.pos _ (List.mem_of_getElem? h2) h3⟩
theorem GoodP.few {ss : List Sp} (h : GoodP ss) : (posS ss 0).length ≤ 4 := by
  have h1 := len_le_sum ((posS ss 0).map (fun x => within x.2.max)) fun y hy => by
    obtain ⟨x, hx, rfl⟩ := List.mem_map.1 hy
    obtain ⟨-, -, h2, h3, h4⟩ := h.at hx
    unfold within; omega
  rw [posS_sum, List.length_map] at h1
  have := h.most; omega
/-- Rows with one positive step more. -/
def stepR (R : List (List Int)) (x : Nat × Sp) : List (List Int) := furL R x.1 x.2.min.toNat (x.2.max + 1 - x.2.min).toNat
def rowsK (ss : List Sp) (k : Nat) : List (List Int) := ((posS ss 0).take k).foldl stepR [[]]
/-- A pattern's rows. -/
def rowsP (ss : List Sp) : List (List Int) := (posS ss 0).foldl stepR [[]]
theorem rowsK_succ {ss : List Sp} {k : Nat} {x : Nat × Sp} (h : (posS ss 0)[k]? = some x) : rowsK ss (k + 1) = stepR (rowsK ss k) x := by
  unfold rowsK
  rw [List.take_add_one, h]
  simp
theorem rowsK_all (ss : List Sp) {k : Nat} (h : (posS ss 0).length ≤ k) : rowsK ss k = rowsP ss := by unfold rowsK rowsP; rw [List.take_of_length_le h]
theorem furL_mem {R : List (List Int)} {i : Int} {mn c : Nat} {q : List Int} : q ∈ furL R i mn c ↔ ∃ r ∈ R, ∃ k, k < c ∧ q = r ++ List.replicate (mn + k) i := by
  unfold furL
  simp only [List.mem_flatMap, List.mem_map, List.mem_range]
  constructor
  · rintro ⟨r, hr, k, hk, e⟩; exact ⟨r, hr, k, hk, e.symm⟩
  · rintro ⟨r, hr, k, hk, e⟩; exact ⟨r, hr, k, hk, e.symm⟩
theorem rows_bd (P : List (Nat × Sp)) (hP : ∀ x ∈ P, 1 ≤ x.2.min ∧ x.2.min ≤ x.2.max ∧ x.2.max ≤ 3) (R : List (List Int)) (m l : Nat) (hm : R.length ≤ m) (hl : ∀ r ∈ R, r.length ≤ l) :
    (P.foldl stepR R).length ≤ m * 3 ^ P.length ∧ ∀ r ∈ P.foldl stepR R, r.length ≤ l + 3 * P.length := by
  induction P generalizing R m l with
  | nil => simpa using ⟨hm, hl⟩
  | cons x P ih =>
    obtain ⟨h1, h2, h3⟩ := hP x List.mem_cons_self
    have := ih (fun y hy => hP y (List.mem_cons_of_mem _ hy)) (stepR R x) (m * 3) (l + 3)
      (by unfold stepR; rw [furL_len]; exact Nat.mul_le_mul hm (by omega))
      (fun r hr => by
        obtain ⟨r0, h0, k, hk, rfl⟩ := furL_mem.1 hr
        have := hl r0 h0
        simp; omega)
    refine ⟨?_, fun r hr => ?_⟩
    · have h := this.1
      rw [List.foldl_cons, List.length_cons, Nat.pow_succ, Nat.mul_comm (3 ^ P.length) 3, ← Nat.mul_assoc]; exact h
    · have := this.2 r hr
      simp only [List.length_cons]; omega
theorem GoodP.rowsK_bd {ss : List Sp} (h : GoodP ss) (k : Nat) : (rowsK ss k).length ≤ 81 ∧ ∀ r ∈ rowsK ss k, r.length ≤ 12 := by
  have hP : ∀ x ∈ (posS ss 0).take k, 1 ≤ x.2.min ∧ x.2.min ≤ x.2.max ∧ x.2.max ≤ 3 := fun x hx => (h.at (List.mem_of_mem_take hx)).2.2
  have h4 : ((posS ss 0).take k).length ≤ 4 := by rw [List.length_take]; have := h.few; omega
  obtain ⟨h1, h2⟩ := rows_bd _ hP [[]] 1 0 (by simp) (by simp)
  have h3 : 3 ^ ((posS ss 0).take k).length ≤ 3 ^ 4 := Nat.pow_le_pow_right (by omega) h4
  refine ⟨?_, fun r hr => ?_⟩
  · have : (3 : Nat) ^ 4 = 81 := by decide
    unfold rowsK; omega
  · have := h2 r hr; omega
end Go.Proofs.YtccmnngeibpcmaaGreat.Tree
/- slices.Values at rows of numbers; further and Collect together. -/
namespace Go.Proofs.YtccmnngeibpcmaaGreat.Tree
open Go.ChangeShapes Go.WideShapes Go.ChangeAt Go.RowKit
set_option linter.unusedVariables false
set_option linter.unusedSimpArgs false
set_option maxRecDepth 100000
attribute [local go_sem] Oper.semAt_some
theorem values_any (a : Option Addr) (n c : Nat) (w : World) :
    Calls Tryz.prog 41 #[.slice a n c] w fun e w' => e = .returned (.func (.func 57) #[] #[.pointer (some ⟨w.heap.size, 0, none⟩)]) ∧ w' = w.alloc (.cells #[.slice a n c] 28) := by
  go_enter Tryz.func41, Tryz.ntmps41
  go_wp2
  go_ret
  exact ⟨rfl, rfl⟩
/-- A row of numbers in a box. -/
def VaIn (B : Nat) (a : Option Addr) (n c : Nat) (xs : List Int) (W : World) : Prop := W.heap[B]? = some (.cells #[.slice a n c] 28 (0, 0)) ∧ xs.length = n ∧ CellsAt W a (ints xs)
theorem VaIn.later {B : Nat} {a : Option Addr} {n c : Nat} {xs : List Int} {W W' : World} (h : VaIn B a n c xs W) (hb : Below W.heap.size W W') : VaIn B a n c xs W' :=
  ⟨(hb.block _ (Array.getElem?_eq_some_iff.1 h.1).1).trans h.1, h.2.1, h.2.2.later hb⟩
theorem ints_look {W : World} {a : Option Addr} {xs : List Int} (h : CellsAt W a (ints xs)) {k : Nat} {x : Int} (hx : xs[k]? = some x) : ∃ b o, a = some ⟨b, o, none⟩ ∧ W.cell? ⟨b, o + k, none⟩ = some (.int .i64 x) := by
  rcases h with h | ⟨b, o, rfl, h⟩
  · simp [ints] at h; subst h; simp at hx
  · exact ⟨b, o, rfl, h k _ (by simp [ints, hx])⟩
def valRow (xs : List Int) : List (Array Value) := xs.map fun x => #[.int .i64 x]
theorem valRow_len (xs : List Int) : (valRow xs).length = xs.length := by simp [valRow]
theorem valRow_at {xs : List Int} {k : Nat} {x : Int} (h : xs[k]? = some x) : (valRow xs)[k]?.getD #[] = #[.int .i64 x] := by simp [valRow, h]
theorem valRow_size {xs : List Int} {k : Nat} (h : k < (valRow xs).length) : ((valRow xs)[k]?.getD #[]).size = 1 := by
  simp [valRow] at h ⊢
  simp [h]
set_option maxHeartbeats 1000000 in
theorem val_tells (N B : Nat) (hN : 1 ≤ N) (a : Option Addr) (n c : Nat) (xs : List Int) (hn : n ≤ 140737488351232) (w : World) :
    TellsRowT True Fence.wide N Tryz.prog 57 #[ptr B] (VaIn B a n c xs) 45 (valRow xs) w := by
  intro l J Jx W hW hK hDr hY h0
  clear hW
  rw [valRow_len] at *
  have hlen : Hid (xs.length = n) := (hK _ _ h0).2.1
  have k0 : W.cell? ⟨B, 0, none⟩ = some (.slice a n c) := by have := (hK _ _ h0).1; simp [World.cell?, this]
  replace hY := Lib.hid hY
  replace hDr := Lib.hid hDr
  replace hK := Lib.hid hK
  refine callsIn_of_wp Tryz.func57 rfl trivial ?_ rfl
  simp only [Tryz.ntmps57, List.size_toArray, List.length_cons, List.length_nil, Nat.reduceAdd, Nat.reduceSub, Array.replicate_succ, Array.replicate_zero, List.push_toArray, List.append_toArray, List.nil_append, List.cons_append]
  gi_wp2_with fail
  clear k0
  gi_loopw [7] (fun u wr => ∃ j : Nat, j ≤ n ∧ u = .int .i64 j ∧ J j wr) (fun u _ => n - (intOf u).toNat)
  case atStart => exact ⟨0, Nat.zero_le _, rfl, h0⟩
  case round =>
    clear h0
    obtain ⟨j, hj, rfl, hJs⟩ := hrel
    by_cases hlt : j < n
    · have hlti : (j : Int) < n := by omega
      obtain ⟨x, hx⟩ : ∃ x, xs[j]? = some x := ⟨_, List.getElem?_eq_getElem (by rw [hlen.out]; exact hlt)⟩
      obtain ⟨b, o, rfl, z0⟩ := ints_look (hK.out _ _ hJs).2.2 hx
      have Y0 := hY.out j (by rw [hlen.out]; exact hlt)
      rw [valRow_at hx] at Y0
      replace Y0 := Y0 _ hJs
      clear hDr hJs hY hK hx
      obtain ⟨fn, tmps, assign, body, hy, hR⟩ := Y0
      gi_wp2
      refine hR.mono ?_
      rintro e W3 (⟨rfl, hkt, hJ3⟩ | ⟨-, rfl, hJx3⟩)
      · gi_wp2
        go_roundw
        case rel => exact ⟨j + 1, hlt, by go_num, hJ3⟩
        case measure => simp [intOf]; omega
      · gi_wp2
        refine bodyPost_ret (results_none rfl _ _ _) rfl ?_
        exact ⟨⟨_, rfl⟩, .inr ⟨_, hJx3⟩⟩
    · obtain rfl : j = n := by omega
      gi_wp2
      go_end0
      exact ⟨⟨_, rfl⟩, .inl (by rw [hlen.out]; exact hJs)⟩
theorem collect_fur (B1 B2 B3 : Nat) (rv sv : Value) (vs : List Value) (R : List (List Int)) (s : Sp) (i : Int) (mn c : Nat) (hmn : s.min = mn) (hc : s.max + 1 = mn + c) (hmn1 : 1 ≤ mn) (h3 : mn + c ≤ 4) (hR : R.length ≤ 1000000) (hRr : ∀ r ∈ R, r.length ≤ 1000) (w : World) (h : FurIn B1 B2 B3 rv vs R s sv i w) :
    Calls Tryz.prog 43 #[.func (.func 60) #[] #[ptr B1, ptr B2, ptr B3]] w fun e w' => ∃ v, e = .returned v ∧ OwnRows w' B1 v (furL R i mn c) ∧ Below w.heap.size w w' := by
  have hA := appendSeq_fur B1 B2 B3 rv sv vs R s i mn c hmn hc hmn1 h3 hR hRr w h
  replace hA := Lib.hid hA
  clear h
  go_enter Tryz.func43, Tryz.ntmps43
  go_wp2_with ((with_reducible refine hA.out.mono ?_); rintro e w2 ⟨v, rfl, h1, h2⟩)
  go_ret
  exact ⟨_, rfl, h1, h2⟩
end Go.Proofs.YtccmnngeibpcmaaGreat.Tree
