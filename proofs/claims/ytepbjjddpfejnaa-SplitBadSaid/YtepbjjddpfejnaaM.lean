/-
  Contracts of wire's part and recordOf: which record eight bytes of a mark, twenty of an event tell; no other condition.
-/
import Derived.Test.YtepbjjddpfejnaaL
namespace Go.Proofs.Ytepbjjddpfejnaa
open Go.ChangeShapes Go.WideShapes Go.ChangeAt Go.RowKit
set_option linter.unusedVariables false
set_option linter.unusedSimpArgs false
attribute [local go_sem] Oper.semAt_some
/-- The whole number that four bytes tell: from 2^31 on it is one below 0. -/
def part32 (n : Int) : Int := if n < 2147483648 then n else n - 4294967296
set_option maxHeartbeats 400000 in
theorem part_any (n : Int) (w : World) (h0 : 0 ≤ n) (h1 : n < 4294967296) :
    Calls Try.prog 39 #[.int .i64 n] w fun e w' => e = .returned (.float .f64 (floatOfInt .f64 (part32 n))) ∧ w = w' := by
  have hc : ∀ w, (convert 21 65 (.int .i32 (part32 n))).run Try.prog w = .ok (.float .f64 (floatOfInt .f64 (part32 n))) w := fun w => run_convert_int_float w 21 65 .i32 .f64 _ (by rw [Try.underlying21]; rfl) Try.underlying65
  have hi : ∀ w, (convert 3 21 (.int .i64 n)).run Try.prog w = .ok (.int .i32 (part32 n)) w := fun w => by
    have hp : IntKind.i32.wrap n = part32 n := by
      unfold part32
      simp [IntKind.wrap, IntKind.signed, IntKind.bits]
      split <;> split <;> omega
    rw [← hp]
    have hk : Try.prog.intKind 21 = .i32 := by kernel_rfl
    have e := run_convert_int (P := Try.prog) w 3 21 .i64 n (by rw [Try.underlying3]; rfl) (by rw [hk]; exact Try.underlying21)
    rwa [hk] at e
  go_enter Try.func39, Try.ntmps39
  go_wp2_with (simp only [hi, hc])
  go_ret
  exact ⟨rfl, rfl⟩
/-- The bytes from place s on, b of them. -/
def ck (zs : List Int) (s b : Nat) : List Int := (zs.drop s).take b
theorem chunk_take (blk off s b cap L : Nat) (zs : List Int) (W : World) (hZ : ∀ i, i < L → W.cell? ⟨blk, off + i, none⟩ = some (.int .u8 (zs[i]?.getD 0))) (hlen : zs.length = L) (hW : ∀ z ∈ zs, isByte z) (hs : s + b ≤ L) (hb : b ≤ 7) (hcap : b ≤ cap) (hlt : blk < W.heap.size) :
    Calls Try.prog 37 #[.slice (some ⟨blk, off + s, none⟩) b cap] W fun e w' => e = .returned (.int .i64 (takeN (ck zs s b))) ∧ W = w' := by
  have hl : (ck zs s b).length = b := by simp [ck]; omega
  have h := take_any (some ⟨blk, off + s, none⟩) cap (ck zs s b) W (.inr ⟨blk, off + s, rfl, hlt, fun i hi => by
    rw [Nat.add_assoc, hZ (s + i) (by omega)]
    rw [hl] at hi
    simp [ck, hi]⟩) (by omega) (by omega) (fun z hz => hW z (List.mem_of_mem_drop (List.mem_of_mem_take hz)))
  rw [hl] at h
  have : last7 (ck zs s b) = ck zs s b := by unfold last7; rw [hl, show b - 7 = 0 by omega]; rfl
  rwa [this] at h
theorem boxed_far {W : World} {B D : Nat} {t : TypeId} {v : Value} (h : Boxed W B t v) (hne : B ≠ D) (o : Nat) (u : Value) : Boxed (W.setCell ⟨D, o, none⟩ u) B t v := (Below.heap_setCell W ⟨D, o, none⟩ u B hne).trans h
/-- Seven numbers lie at block B. -/
def Nums (B : Nat) (C : Nat → Int) (W : World) : Prop := ∀ i, i < 7 → W.cell? ⟨B, i, none⟩ = some (.int .i64 (C i)) ∧ W.frozen? ⟨B, i, none⟩ = false
theorem Nums.set {B : Nat} {C : Nat → Int} {W : World} (h : Nums B C W) (k : Nat) (hk : k < 7) (v : Int) : Nums B (fun i => if i = k then v else C i) (W.setCell ⟨B, k, none⟩ (.int .i64 v)) := fun i hi => by
  refine ⟨?_, by rw [World.frozen?_setCell]; exact (h i hi).2⟩
  by_cases e : i = k
  · subst e; simp only [if_pos rfl]; exact World.cell?_setCell_same _ _ _ (h i hi).1
  · simp only [if_neg e]; exact set_far (by intro q; cases q; exact e rfl) (h i hi).1
theorem Nums.other {B : Nat} {C : Nat → Int} {W : World} (h : Nums B C W) (D o : Nat) (u : Value) (hne : D ≠ B) : Nums B C (W.setCell ⟨D, o, none⟩ u) := fun i hi =>
  ⟨set_far (by intro q; cases q; exact hne rfl) (h i hi).1, by rw [World.frozen?_setCell]; exact (h i hi).2⟩
theorem Nums.later {B : Nat} {C : Nat → Int} {W W' : World} (h : Nums B C W) (hl : B < W.heap.size) (hb : Below W.heap.size W W') : Nums B C W' := fun i hi => ⟨bcell hb hl (h i hi).1, bfrozen hb hl (h i hi).2⟩
theorem Nums.like {B : Nat} {C C' : Nat → Int} {W : World} (h : Nums B C W) (e : ∀ i, i < 7 → C i = C' i) : Nums B C' W := fun i hi => by rw [← e i hi]; exact h i hi
/-- Eight cells lie at block B that may be written. -/
def Room8 (B : Nat) (W : World) : Prop := ∀ o, o < 8 → (∃ v, W.cell? ⟨B, o, none⟩ = some v) ∧ W.frozen? ⟨B, o, none⟩ = false
theorem Room8.set {B : Nat} {W : World} (h : Room8 B W) (a : Addr) (u : Value) : Room8 B (W.setCell a u) := fun o ho => by
  obtain ⟨⟨v, hv⟩, hf⟩ := h o ho
  exact ⟨cell?_setCell_some hv, by rw [World.frozen?_setCell]; exact hf⟩
theorem Room8.later {B : Nat} {W W' : World} (h : Room8 B W) (hl : B < W.heap.size) (hb : Below W.heap.size W W') : Room8 B W' := fun o ho => by
  obtain ⟨⟨v, hv⟩, hf⟩ := h o ho
  exact ⟨⟨v, bcell hb hl hv⟩, bfrozen hb hl hf⟩
theorem Room8.at {B o : Nat} {W : World} (h : Room8 B W) (ho : o < 8) : W.cell? ⟨B, o, none⟩ = some (heldAt B o W) := by obtain ⟨⟨v, hv⟩, _⟩ := h o ho; exact held_of hv
theorem ck_first (zs : List Int) (h : 0 < zs.length) : takeN (ck zs 0 1) = zs[0]?.getD 0 := by
  cases zs with
  | nil => simp at h
  | cons a r => simp [ck, takeN]
theorem eight_held {W : World} {B : Nat} {v0 v1 v2 v3 v4 v5 v6 v7 : Value} (h : Room8 B W) :
    ((((((((W.setCell ⟨B, 0, none⟩ v0).setCell ⟨B, 1, none⟩ v1).setCell ⟨B, 2, none⟩ v2).setCell ⟨B, 3, none⟩ v3).setCell ⟨B, 4, none⟩ v4).setCell ⟨B, 5, none⟩ v5).setCell ⟨B, 6, none⟩ v6).setCell ⟨B, 7, none⟩ v7).cell? ⟨B, 0, none⟩ = some v0 ∧ ((((((((W.setCell ⟨B, 0, none⟩ v0).setCell ⟨B, 1, none⟩ v1).setCell ⟨B, 2, none⟩ v2).setCell ⟨B, 3, none⟩ v3).setCell ⟨B, 4, none⟩ v4).setCell ⟨B, 5, none⟩ v5).setCell ⟨B, 6, none⟩ v6).setCell ⟨B, 7, none⟩ v7).cell? ⟨B, 1, none⟩ = some v1 ∧ ((((((((W.setCell ⟨B, 0, none⟩ v0).setCell ⟨B, 1, none⟩ v1).setCell ⟨B, 2, none⟩ v2).setCell ⟨B, 3, none⟩ v3).setCell ⟨B, 4, none⟩ v4).setCell ⟨B, 5, none⟩ v5).setCell ⟨B, 6, none⟩ v6).setCell ⟨B, 7, none⟩ v7).cell? ⟨B, 2, none⟩ = some v2 ∧ ((((((((W.setCell ⟨B, 0, none⟩ v0).setCell ⟨B, 1, none⟩ v1).setCell ⟨B, 2, none⟩ v2).setCell ⟨B, 3, none⟩ v3).setCell ⟨B, 4, none⟩ v4).setCell ⟨B, 5, none⟩ v5).setCell ⟨B, 6, none⟩ v6).setCell ⟨B, 7, none⟩ v7).cell? ⟨B, 3, none⟩ = some v3 ∧ ((((((((W.setCell ⟨B, 0, none⟩ v0).setCell ⟨B, 1, none⟩ v1).setCell ⟨B, 2, none⟩ v2).setCell ⟨B, 3, none⟩ v3).setCell ⟨B, 4, none⟩ v4).setCell ⟨B, 5, none⟩ v5).setCell ⟨B, 6, none⟩ v6).setCell ⟨B, 7, none⟩ v7).cell? ⟨B, 4, none⟩ = some v4 ∧ ((((((((W.setCell ⟨B, 0, none⟩ v0).setCell ⟨B, 1, none⟩ v1).setCell ⟨B, 2, none⟩ v2).setCell ⟨B, 3, none⟩ v3).setCell ⟨B, 4, none⟩ v4).setCell ⟨B, 5, none⟩ v5).setCell ⟨B, 6, none⟩ v6).setCell ⟨B, 7, none⟩ v7).cell? ⟨B, 5, none⟩ = some v5 ∧ ((((((((W.setCell ⟨B, 0, none⟩ v0).setCell ⟨B, 1, none⟩ v1).setCell ⟨B, 2, none⟩ v2).setCell ⟨B, 3, none⟩ v3).setCell ⟨B, 4, none⟩ v4).setCell ⟨B, 5, none⟩ v5).setCell ⟨B, 6, none⟩ v6).setCell ⟨B, 7, none⟩ v7).cell? ⟨B, 6, none⟩ = some v6 ∧ ((((((((W.setCell ⟨B, 0, none⟩ v0).setCell ⟨B, 1, none⟩ v1).setCell ⟨B, 2, none⟩ v2).setCell ⟨B, 3, none⟩ v3).setCell ⟨B, 4, none⟩ v4).setCell ⟨B, 5, none⟩ v5).setCell ⟨B, 6, none⟩ v6).setCell ⟨B, 7, none⟩ v7).cell? ⟨B, 7, none⟩ = some v7 := by
  refine ⟨?_, ?_, ?_, ?_, ?_, ?_, ?_, ?_⟩
  · rw [World.cell?_setCell_other _ _ _ _ (by simp), World.cell?_setCell_other _ _ _ _ (by simp), World.cell?_setCell_other _ _ _ _ (by simp), World.cell?_setCell_other _ _ _ _ (by simp), World.cell?_setCell_other _ _ _ _ (by simp), World.cell?_setCell_other _ _ _ _ (by simp), World.cell?_setCell_other _ _ _ _ (by simp)]
    exact World.cell?_setCell_same _ _ _ (h.at (by omega))
  · rw [World.cell?_setCell_other _ _ _ _ (by simp), World.cell?_setCell_other _ _ _ _ (by simp), World.cell?_setCell_other _ _ _ _ (by simp), World.cell?_setCell_other _ _ _ _ (by simp), World.cell?_setCell_other _ _ _ _ (by simp), World.cell?_setCell_other _ _ _ _ (by simp)]
    exact World.cell?_setCell_same _ _ _ ((h.set _ _).at (by omega))
  · rw [World.cell?_setCell_other _ _ _ _ (by simp), World.cell?_setCell_other _ _ _ _ (by simp), World.cell?_setCell_other _ _ _ _ (by simp), World.cell?_setCell_other _ _ _ _ (by simp), World.cell?_setCell_other _ _ _ _ (by simp)]
    exact World.cell?_setCell_same _ _ _ (((h.set _ _).set _ _).at (by omega))
  · rw [World.cell?_setCell_other _ _ _ _ (by simp), World.cell?_setCell_other _ _ _ _ (by simp), World.cell?_setCell_other _ _ _ _ (by simp), World.cell?_setCell_other _ _ _ _ (by simp)]
    exact World.cell?_setCell_same _ _ _ ((((h.set _ _).set _ _).set _ _).at (by omega))
  · rw [World.cell?_setCell_other _ _ _ _ (by simp), World.cell?_setCell_other _ _ _ _ (by simp), World.cell?_setCell_other _ _ _ _ (by simp)]
    exact World.cell?_setCell_same _ _ _ (((((h.set _ _).set _ _).set _ _).set _ _).at (by omega))
  · rw [World.cell?_setCell_other _ _ _ _ (by simp), World.cell?_setCell_other _ _ _ _ (by simp)]
    exact World.cell?_setCell_same _ _ _ ((((((h.set _ _).set _ _).set _ _).set _ _).set _ _).at (by omega))
  · rw [World.cell?_setCell_other _ _ _ _ (by simp)]
    exact World.cell?_setCell_same _ _ _ (((((((h.set _ _).set _ _).set _ _).set _ _).set _ _).set _ _).at (by omega))
  · exact World.cell?_setCell_same _ _ _ ((((((((h.set _ _).set _ _).set _ _).set _ _).set _ _).set _ _).set _ _).at (by omega))
/-- Between two rounds: what is left, the numbers so far, room for the record. -/
def RIn (blk off c N L : Nat) (S : Nat → Nat) (C : Nat → Nat → Int) (w : World) (k : Nat) (W : World) : Prop :=
  (∃ v, Boxed W (w.heap.size + 1 + 1) 22 v ∧ (k < N → v = .slice (some ⟨blk, off + S k, none⟩) (L - S k) (L - S k + c))) ∧ Nums (w.heap.size + 1) (C k) W ∧ Room8 w.heap.size W ∧ Below w.heap.size w W
theorem RIn_own (blk off c N L : Nat) (S : Nat → Nat) (C : Nat → Nat → Int) (w : World) (B : Nat) (hB : w.heap.size ≤ B) : OwnFrom B (RIn blk off c N L S C w) := by
  rintro k X Y row ⟨⟨v, hv, he⟩, hn, hr, hb⟩ hg hrow
  have hrow' : ∀ r, row = some r → ∃ o : Obj, X.heap[r]? = some o ∧ o.isCells = false := fun r e => (hrow r e).2
  refine ⟨⟨v, boxed_own (w.heap.size + 1 + 1) 22 (fun _ : Unit => v) () X Y row hv hg hrow', he⟩, fun i hi => ⟨cell_kept (hn i hi).1 hg hrow', (frozen_kept (hn i hi).1 hg hrow').trans (hn i hi).2⟩, fun o ho => ?_, ownFrom_below (Nat.le_refl _) hB k X Y row hb hg hrow⟩
  obtain ⟨⟨u, hu⟩, hf⟩ := hr o ho
  exact ⟨⟨u, cell_kept hu hg hrow'⟩, (frozen_kept hu hg hrow').trans hf⟩
theorem evV_four (zs : List Int) (s : Nat) (h : zs.length = 20) (hW : ∀ z ∈ zs, isByte z) : 0 ≤ takeN (ck zs s 4) ∧ takeN (ck zs s 4) < 4294967296 := by
  have hb : ∀ z ∈ ck zs s 4, isByte z := fun z hz => hW z (List.mem_of_mem_drop (List.mem_of_mem_take hz))
  obtain ⟨h0, h1⟩ := takeN_bd (ck zs s 4) hb
  refine ⟨h0, Int.lt_of_lt_of_le h1 ?_⟩
  have hl : (ck zs s 4).length ≤ 4 := by simp [ck]; omega
  have : (256 : Nat) ^ (ck zs s 4).length ≤ 256 ^ 4 := Nat.pow_le_pow_right (by omega) hl
  have h2 : ((256 ^ (ck zs s 4).length : Nat) : Int) ≤ ((256 ^ 4 : Nat) : Int) := by exact_mod_cast this
  simpa using h2
theorem slice_eq {b o o' n n' m m' : Nat} (h1 : o = o') (h2 : n = n') (h3 : m = m') : Value.slice (some ⟨b, o, none⟩) n m = .slice (some ⟨b, o', none⟩) n' m' := by rw [h1, h2, h3]
def evSn (k : Nat) : Nat := [0, 1, 7, 8, 11, 12, 16, 20].getD k 0
def mkSn (k : Nat) : Nat := [0, 1, 2, 8].getD k 0
/-- The numbers that twenty bytes tell. -/
def evV (zs : List Int) (i : Nat) : Int := takeN ([ck zs 0 1, ck zs 1 6, ck zs 7 1, ck zs 8 3, ck zs 11 1, ck zs 12 4, ck zs 16 4].getD i [])
def evC (zs : List Int) (k i : Nat) : Int := if i < k then evV zs i else 0
/-- The numbers that eight bytes tell. -/
def mkC (zs : List Int) (k i : Nat) : Int := if i = 0 then (if 0 < k then takeN (ck zs 0 1) else 0) else if i = 2 then (if 1 < k then takeN (ck zs 1 1) else 0) else if i = 1 then (if 2 < k then takeN (ck zs 2 6) else 0) else 0
set_option maxRecDepth 100000 in
set_option maxHeartbeats 4000000 in
theorem recordOf_mark (blk off c : Nat) (zs : List Int) (w : World) (hb : blk < w.heap.size) (hlen : zs.length = 8) (hZ : ∀ i, i < 8 → w.cell? ⟨blk, off + i, none⟩ = some (.int .u8 (zs[i]?.getD 0))) (hW : ∀ z ∈ zs, isByte z) (h0 : zs[0]?.getD 0 = 2) :
    Calls Try.prog 29 #[.slice (some ⟨blk, off, none⟩) 8 (8 + c : Nat)] w fun e w' => e = .returned (RV 2 0 0 0 0 0 0 (takeN (ck zs 1 1)) (takeN (ck zs 2 6))) ∧ Below w.heap.size w w' := by
  have hc := hZ 0 (by omega)
  rw [h0] at hc
  have HZ := Lib.hid hZ
  have HW := Lib.hid hW
  have HL := Lib.hid hlen
  have H0 := Lib.hid ((ck_first zs (by omega)).trans h0)
  clear hZ hW hlen h0
  have hcA : (((w.alloc (.cells #[.int .u8 0, .int .i64 0, .int .i64 0, .int .i64 0, .int .i64 0, .complex .f64 0 0, .int .i64 0, .int .i64 0] 42)).alloc (.cells #[.int .i64 0, .int .i64 0, .int .i64 0, .int .i64 0, .int .i64 0, .int .i64 0, .int .i64 0] 68)).alloc (.cells #[.slice (some ⟨blk, off, none⟩) 8 (8 + c)] 22)).cell? ⟨blk, off, none⟩ = some (.int .u8 2) :=
    bcell (((Below.refl _ _).alloc (Nat.le_refl _) _ |>.alloc (by simp) _).alloc (by simp <;> omega) _) hb hc
  refine (callsIn_wide (n := 9)).1 ?_
  refine callsIn_of_wp_marks Try.func29 rfl trivial ?_ rfl
  rw [wpIn_wide]
  simp only [Try.ntmps29, List.size_toArray, List.length_cons, List.length_nil, Nat.reduceAdd, Nat.reduceSub, Array.replicate_succ, Array.replicate_zero, List.push_toArray, List.append_toArray, List.nil_append, List.cons_append]
  go_wp2_with fail
  (with_reducible refine (layout_any _ _).mono ?_)
  rintro e w1 ⟨rfl, rfl⟩
  go_wp2_with fail
  clear hc hcA
  obtain ⟨W0, hW0⟩ : ∃ W0, (((w.alloc (.cells #[.int .u8 0, .int .i64 0, .int .i64 0, .int .i64 0, .int .i64 0, .complex .f64 0 0, .int .i64 0, .int .i64 0] 42)).alloc (.cells #[.int .i64 0, .int .i64 0, .int .i64 0, .int .i64 0, .int .i64 0, .int .i64 0, .int .i64 0] 68)).alloc (.cells #[.slice (some ⟨blk, off, none⟩) 8 (8 + c)] 22)).alloc (.cells #[.int .u8 2] 5) = W0 := ⟨_, rfl⟩
  have hsz : W0.heap.size = w.heap.size + 4 := by rw [← hW0]; simp
  have hI : RIn blk off c 3 8 mkSn (mkC zs) w 0 W0 := by
    rw [← hW0]
    refine ⟨⟨_, ?_, fun _ => rfl⟩, ?_, ?_, ?_⟩
    · have h := (Boxed.new ((w.alloc (.cells #[.int .u8 0, .int .i64 0, .int .i64 0, .int .i64 0, .int .i64 0, .complex .f64 0 0, .int .i64 0, .int .i64 0] 42)).alloc (.cells #[.int .i64 0, .int .i64 0, .int .i64 0, .int .i64 0, .int .i64 0, .int .i64 0, .int .i64 0] 68)) 22 (.slice (some ⟨blk, off, none⟩) 8 (8 + c))).alloc (.cells #[.int .u8 2] 5)
      rw [World.size_alloc, World.size_alloc] at h
      exact h
    · intro i hi
      rcases below7 hi with rfl | rfl | rfl | rfl | rfl | rfl | rfl <;> simp [go_sem, evC, mkC]
    · intro i hi
      rcases (show i = 0 ∨ i = 1 ∨ i = 2 ∨ i = 3 ∨ i = 4 ∨ i = 5 ∨ i = 6 ∨ i = 7 by omega) with rfl | rfl | rfl | rfl | rfl | rfl | rfl | rfl <;> simp [go_sem]
    · exact (((Below.refl _ _).alloc (Nat.le_refl _) _ |>.alloc (by simp) _).alloc (by simp <;> omega) _).alloc (by simp <;> omega) _
  have bN : Boxed W0 (w.heap.size + 1 + 1 + 1) 5 (.int .u8 2) := by
    rw [← hW0]
    have h := Boxed.new (((w.alloc (.cells #[.int .u8 0, .int .i64 0, .int .i64 0, .int .i64 0, .int .i64 0, .complex .f64 0 0, .int .i64 0, .int .i64 0] 42)).alloc (.cells #[.int .i64 0, .int .i64 0, .int .i64 0, .int .i64 0, .int .i64 0, .int .i64 0, .int .i64 0] 68)).alloc (.cells #[.slice (some ⟨blk, off, none⟩) 8 (8 + c)] 22)) 5 (.int .u8 2)
    rwa [World.size_alloc, World.size_alloc, World.size_alloc] at h
  rw [hW0]
  clear hW0
  refine (wpIn_wide (n := 9)).1 ?_
  refine wpIn_rangeFunc_row rfl (by omega) (gf := 46) (lb := #[.pointer (some ⟨w.heap.size + 1 + 1 + 1, 0, none⟩)]) rfl trivial (enters_of Try.func46 (by kernel_rfl) rfl)
    (mark_tells 8 (w.heap.size + 1 + 1 + 1) (by omega) W0 bN) (Below.refl _ _) (fun k hk => by rw [mk_at k hk]; rfl)
    (RIn blk off c 3 8 mkSn (mkC zs) w) (fun _ _ => False) (RIn_own blk off c 3 8 mkSn (mkC zs) w _ (by omega)) (fun _ _ _ _ hs _ _ => hs) (fun _ _ h => h)
    hI
    (fun k => { tmps := #[.slice (some ⟨blk, off, none⟩) 8 (8 + c), undef, .pointer (some ⟨w.heap.size, 0, none⟩), .pointer (some ⟨w.heap.size + 1, 0, none⟩), .pointer (some ⟨w.heap.size + 1 + 1, 0, none⟩), .int .i64 (mkP k), .int .i64 (mkW k), undef, .slice (some ⟨blk, off, none⟩) 8 (8 + c), .slice (some ⟨blk, off, none⟩) 8 (8 + c), .pointer (some ⟨blk, off, none⟩), .int .u8 2, .func (.func 46) #[] #[.pointer (some ⟨w.heap.size + 1 + 1 + 1, 0, none⟩)], .int .i64 (mkP k), .int .i64 (mkW k), undef, undef, undef, undef, undef, undef, undef, undef, undef, undef, undef, undef, undef, undef, undef, undef, undef, undef, undef, undef, undef, undef, undef, undef, undef, undef, undef, undef, undef, undef, undef, undef, undef, undef, undef], defers := [] }) ?assign ?body ?done ?stop
  case assign =>
    intro l k W K hk hK
    rw [mk_at k hk]
    gi_wp2
    exact hK
  case body =>
    rintro l k W hk ⟨⟨v, hv, he⟩, hn, hr, hB⟩
    have HSZ := Lib.hid hsz
    clear hsz hI bN
    have hZW : ∀ i, i < 8 → W.cell? ⟨blk, off + i, none⟩ = some (.int .u8 (zs[i]?.getD 0)) := fun i hi => bcell hB hb (HZ.out i hi)
    have hbW : blk < W.heap.size := Nat.lt_of_lt_of_le hb hB.size
    have htk := Lib.hid (fun s b cap hs hb' hcap => chunk_take blk off s b cap 8 zs W hZW HL.out HW.out hs hb' hcap hbW)
    clear hZW
    rcases below3 hk with rfl | rfl | rfl
    · have e := he (by omega)
      have e2 : v = .slice (some ⟨blk, off, none⟩) 8 (8 + c) := e
      subst e2
      clear e he
      have hc := hv.cell
      have hf := hv.frozen
      have hT := Lib.hid (htk.out 0 1 (8 + c) (by omega) (by omega) (by omega))
      obtain ⟨n0, n1⟩ := hn 0 (by omega)
      have n0' : W.cell? ⟨w.heap.size + 1, 0, none⟩ = some (.int .i64 0) := n0
      clear n0
      have hv2 := fun x => hv.other (B' := w.heap.size + 1) (by omega) x
      have hvs : ∀ x, (W.setCell ⟨w.heap.size + 1, 0, none⟩ x).cell? ⟨w.heap.size + 1 + 1, 0, none⟩ = some (.slice (some ⟨blk, off, none⟩) 8 (8 + c)) := fun x => set_far (by simp) hc
      clear hv2
      simp only [show mkP 0 = 0 from rfl, show mkW 0 = 1 from rfl]
      gi_wp2_with fail
      refine ⟨trivial, ?_⟩
      refine (((callsIn_wide (n := 6)).2 hT.out).inRound l).mono ?_
      rintro e W3 ⟨rfl, rfl⟩
      gi_wp2
      all_goals
        refine ⟨((KeepsOthers.setCell _ _ _).trans (KeepsOthers.setCell _ _ _)).from _, ?_, ?_, (hr.set _ _).set _ _, (hB.setCell (by show _ ≤ _ + 1; omega) _).setCell (by show _ ≤ _ + 1 + 1; omega) _⟩
        · exact ⟨_, (boxed_far hv (by omega) _ _).set _, fun h => slice_eq (by simp [mkSn] <;> omega) (by simp [mkSn] <;> omega) (by simp [mkSn] <;> omega)⟩
        · refine ((hn.set 0 (by omega) _).other _ _ _ (by omega)).like (fun i hi => ?_)
          rcases below7 hi with rfl | rfl | rfl | rfl | rfl | rfl | rfl <;> simp [evC, evV, mkC]
    · have e := he (by omega)
      have e2 : v = .slice (some ⟨blk, off + 1, none⟩) 7 (7 + c) := e
      subst e2
      clear e he
      have hc := hv.cell
      have hf := hv.frozen
      have hT := Lib.hid (htk.out 1 1 (7 + c) (by omega) (by omega) (by omega))
      obtain ⟨n0, n1⟩ := hn 2 (by omega)
      have n0' : W.cell? ⟨w.heap.size + 1, 2, none⟩ = some (.int .i64 0) := n0
      clear n0
      have hv2 := fun x => hv.other (B' := w.heap.size + 1) (by omega) x
      have hvs : ∀ x, (W.setCell ⟨w.heap.size + 1, 2, none⟩ x).cell? ⟨w.heap.size + 1 + 1, 0, none⟩ = some (.slice (some ⟨blk, off + 1, none⟩) 7 (7 + c)) := fun x => set_far (by simp) hc
      clear hv2
      simp only [show mkP 1 = 2 from rfl, show mkW 1 = 1 from rfl]
      gi_wp2_with fail
      refine ⟨trivial, ?_⟩
      refine (((callsIn_wide (n := 6)).2 hT.out).inRound l).mono ?_
      rintro e W3 ⟨rfl, rfl⟩
      gi_wp2
      all_goals
        refine ⟨((KeepsOthers.setCell _ _ _).trans (KeepsOthers.setCell _ _ _)).from _, ?_, ?_, (hr.set _ _).set _ _, (hB.setCell (by show _ ≤ _ + 1; omega) _).setCell (by show _ ≤ _ + 1 + 1; omega) _⟩
        · exact ⟨_, (boxed_far hv (by omega) _ _).set _, fun h => slice_eq (by simp [mkSn] <;> omega) (by simp [mkSn] <;> omega) (by simp [mkSn] <;> omega)⟩
        · refine ((hn.set 2 (by omega) _).other _ _ _ (by omega)).like (fun i hi => ?_)
          rcases below7 hi with rfl | rfl | rfl | rfl | rfl | rfl | rfl <;> simp [evC, evV, mkC]
    · have e := he (by omega)
      have e2 : v = .slice (some ⟨blk, off + 2, none⟩) 6 (6 + c) := e
      subst e2
      clear e he
      have hc := hv.cell
      have hf := hv.frozen
      have hT := Lib.hid (htk.out 2 6 (6 + c) (by omega) (by omega) (by omega))
      obtain ⟨n0, n1⟩ := hn 1 (by omega)
      have n0' : W.cell? ⟨w.heap.size + 1, 1, none⟩ = some (.int .i64 0) := n0
      clear n0
      have hv2 := fun x => hv.other (B' := w.heap.size + 1) (by omega) x
      have hvs : ∀ x, (W.setCell ⟨w.heap.size + 1, 1, none⟩ x).cell? ⟨w.heap.size + 1 + 1, 0, none⟩ = some (.slice (some ⟨blk, off + 2, none⟩) 6 (6 + c)) := fun x => set_far (by simp) hc
      clear hv2
      simp only [show mkP 2 = 1 from rfl, show mkW 2 = 6 from rfl]
      gi_wp2_with fail
      refine ⟨trivial, ?_⟩
      refine (((callsIn_wide (n := 6)).2 hT.out).inRound l).mono ?_
      rintro e W3 ⟨rfl, rfl⟩
      gi_wp2
      all_goals
        refine ⟨((KeepsOthers.setCell _ _ _).trans (KeepsOthers.setCell _ _ _)).from _, ?_, ?_, (hr.set _ _).set _ _, (hB.setCell (by show _ ≤ _ + 1; omega) _).setCell (by show _ ≤ _ + 1 + 1; omega) _⟩
        · exact ⟨_, (boxed_far hv (by omega) _ _).set _, fun h => absurd h (by omega)⟩
        · refine ((hn.set 1 (by omega) _).other _ _ _ (by omega)).like (fun i hi => ?_)
          rcases below7 hi with rfl | rfl | rfl | rfl | rfl | rfl | rfl <;> simp [evC, evV, mkC]
  case done =>
    rintro D W hD ⟨_, hn, hr, hB⟩ hK
    have hDw : w.heap.size ≤ D := by omega
    have n0 : W.cell? ⟨w.heap.size + 1, 0, none⟩ = some (.int .i64 2) := by rw [← H0.out]; exact (hn 0 (by omega)).1
    have n1 : W.cell? ⟨w.heap.size + 1, 1, none⟩ = some (.int .i64 (takeN (ck zs 2 6))) := (hn 1 (by omega)).1
    have n2 : W.cell? ⟨w.heap.size + 1, 2, none⟩ = some (.int .i64 (takeN (ck zs 1 1))) := (hn 2 (by omega)).1
    have hsW : w.heap.size < W.heap.size := World.block_lt_of_cell? W _ (hr.at (o := 0) (by omega))
    clear hn hsz hI bN
    go_wp2_with fail
    (with_reducible refine (mark_any _ _ _).mono ?_)
    rintro e W3 ⟨rfl, hb3⟩
    have hr3 := hr.later (by omega) hb3
    have hK3 : W3.heap[D]? = some (.deferred (some [])) := (hb3.block D (Array.getElem?_eq_some_iff.1 hK).1).trans hK
    have hB3 : Below w.heap.size w W3 := hB.trans (hb3.mono hB.size)
    have r0 := hr3.at (o := 0) (by omega)
    have r1 := hr3.at (o := 1) (by omega)
    have r2 := hr3.at (o := 2) (by omega)
    have r3 := hr3.at (o := 3) (by omega)
    have r4 := hr3.at (o := 4) (by omega)
    have r5 := hr3.at (o := 5) (by omega)
    have r6 := hr3.at (o := 6) (by omega)
    have r7 := hr3.at (o := 7) (by omega)
    have f0 := (hr3 0 (by omega)).2
    have f1 := (hr3 1 (by omega)).2
    have f2 := (hr3 2 (by omega)).2
    have f3 := (hr3 3 (by omega)).2
    have f4 := (hr3 4 (by omega)).2
    have f5 := (hr3 5 (by omega)).2
    have f6 := (hr3 6 (by omega)).2
    have f7 := (hr3 7 (by omega)).2
    clear hr hb3 hK hB n0 n1 n2
    go_wp2
    obtain ⟨d0, d1, d2, d3, d4, d5, d6, d7⟩ := eight_held (W := W3) (B := w.heap.size) (v0 := .int .u8 2) (v1 := .int .i64 0) (v2 := .int .i64 0) (v3 := .int .i64 0) (v4 := .int .i64 0) (v5 := .complex .f64 0 0) (v6 := .int .i64 (takeN (ck zs 1 1))) (v7 := .int .i64 (takeN (ck zs 2 6))) hr3
    have hK4 : (((((((((W3.setCell ⟨w.heap.size, 0, none⟩ (.int .u8 2)).setCell ⟨w.heap.size, 1, none⟩ (.int .i64 0)).setCell ⟨w.heap.size, 2, none⟩ (.int .i64 0)).setCell ⟨w.heap.size, 3, none⟩ (.int .i64 0)).setCell ⟨w.heap.size, 4, none⟩ (.int .i64 0)).setCell ⟨w.heap.size, 5, none⟩ (.complex .f64 0 0)).setCell ⟨w.heap.size, 6, none⟩ (.int .i64 (takeN (ck zs 1 1)))).setCell ⟨w.heap.size, 7, none⟩ (.int .i64 (takeN (ck zs 2 6))))).heap[D]? = some (.deferred (some [])) := ((((((((KeepsOthers.setCell _ _ _).trans (KeepsOthers.setCell _ _ _)).trans (KeepsOthers.setCell _ _ _)).trans (KeepsOthers.setCell _ _ _)).trans (KeepsOthers.setCell _ _ _)).trans (KeepsOthers.setCell _ _ _)).trans (KeepsOthers.setCell _ _ _)).trans (KeepsOthers.setCell _ _ _)).same D _ hK3 rfl
    have hB4 : Below w.heap.size w (((((((((W3.setCell ⟨w.heap.size, 0, none⟩ (.int .u8 2)).setCell ⟨w.heap.size, 1, none⟩ (.int .i64 0)).setCell ⟨w.heap.size, 2, none⟩ (.int .i64 0)).setCell ⟨w.heap.size, 3, none⟩ (.int .i64 0)).setCell ⟨w.heap.size, 4, none⟩ (.int .i64 0)).setCell ⟨w.heap.size, 5, none⟩ (.complex .f64 0 0)).setCell ⟨w.heap.size, 6, none⟩ (.int .i64 (takeN (ck zs 1 1)))).setCell ⟨w.heap.size, 7, none⟩ (.int .i64 (takeN (ck zs 2 6))))) := (((((((hB3.setCell (Nat.le_refl _) _).setCell (Nat.le_refl _) _).setCell (Nat.le_refl _) _).setCell (Nat.le_refl _) _).setCell (Nat.le_refl _) _).setCell (Nat.le_refl _) _).setCell (Nat.le_refl _) _).setCell (Nat.le_refl _) _
    clear r0 r1 r2 r3 r4 r5 r6 r7 f0 f1 f2 f3 f4 f5 f6 f7 hr3 hK3 hB3
    generalize ((((((((W3.setCell ⟨w.heap.size, 0, none⟩ (.int .u8 2)).setCell ⟨w.heap.size, 1, none⟩ (.int .i64 0)).setCell ⟨w.heap.size, 2, none⟩ (.int .i64 0)).setCell ⟨w.heap.size, 3, none⟩ (.int .i64 0)).setCell ⟨w.heap.size, 4, none⟩ (.int .i64 0)).setCell ⟨w.heap.size, 5, none⟩ (.complex .f64 0 0)).setCell ⟨w.heap.size, 6, none⟩ (.int .i64 (takeN (ck zs 1 1)))).setCell ⟨w.heap.size, 7, none⟩ (.int .i64 (takeN (ck zs 2 6)))) = W5 at *
    have hg := grownBy_putObj' W5 D (.deferred none)
    have hrow : ∀ r, some D = some r → ∃ o : Obj, W5.heap[r]? = some o ∧ o.isCells = false := fun r e => by cases e; exact ⟨_, hK4, rfl⟩
    replace d0 := cell_kept d0 hg hrow
    replace d1 := cell_kept d1 hg hrow
    replace d2 := cell_kept d2 hg hrow
    replace d3 := cell_kept d3 hg hrow
    replace d4 := cell_kept d4 hg hrow
    replace d5 := cell_kept d5 hg hrow
    replace d6 := cell_kept d6 hg hrow
    replace d7 := cell_kept d7 hg hrow
    have hbl := hB4.trans (belowK_b (w := w) (Nat.le_refl _) W5 D _ (.deferred none) hDw hK4 rfl rfl)
    refine ⟨by simp, .inl ⟨_, _, rfl, run_takeDeferred hK4, ?_⟩⟩
    clear hg hrow hK4 hB4
    generalize W5.putObj D (.deferred none) = W6 at *
    exact ⟨RV 2 0 0 0 0 0 0 (takeN (ck zs 1 1)) (takeN (ck zs 2 6)), by simp [results, Try.results29, go_sem, d0, d1, d2, d3, d4, d5, d6, d7], rfl, hbl⟩
  case stop =>
    rintro D c W _ h _
    exact h.elim
set_option maxRecDepth 100000 in
set_option maxHeartbeats 4000000 in
theorem recordOf_event (blk off c : Nat) (zs : List Int) (w : World) (hb : blk < w.heap.size) (hlen : zs.length = 20) (hZ : ∀ i, i < 20 → w.cell? ⟨blk, off + i, none⟩ = some (.int .u8 (zs[i]?.getD 0))) (hW : ∀ z ∈ zs, isByte z) (h0 : zs[0]?.getD 0 = 1) :
    Calls Try.prog 29 #[.slice (some ⟨blk, off, none⟩) 20 (20 + c : Nat)] w fun e w' => e = .returned (RV 1 (evV zs 1) (evV zs 2) (evV zs 3) (evV zs 4) (floatOfInt .f64 (part32 (evV zs 5))) (floatOfInt .f64 (part32 (evV zs 6))) 0 0) ∧ Below w.heap.size w w' := by
  have hc := hZ 0 (by omega)
  rw [h0] at hc
  have HZ := Lib.hid hZ
  have HW := Lib.hid hW
  have HL := Lib.hid hlen
  have H0 := Lib.hid ((ck_first zs (by omega)).trans h0)
  clear hZ hW hlen h0
  have hcA : (((w.alloc (.cells #[.int .u8 0, .int .i64 0, .int .i64 0, .int .i64 0, .int .i64 0, .complex .f64 0 0, .int .i64 0, .int .i64 0] 42)).alloc (.cells #[.int .i64 0, .int .i64 0, .int .i64 0, .int .i64 0, .int .i64 0, .int .i64 0, .int .i64 0] 68)).alloc (.cells #[.slice (some ⟨blk, off, none⟩) 20 (20 + c)] 22)).cell? ⟨blk, off, none⟩ = some (.int .u8 1) :=
    bcell (((Below.refl _ _).alloc (Nat.le_refl _) _ |>.alloc (by simp) _).alloc (by simp <;> omega) _) hb hc
  refine (callsIn_wide (n := 9)).1 ?_
  refine callsIn_of_wp_marks Try.func29 rfl trivial ?_ rfl
  rw [wpIn_wide]
  simp only [Try.ntmps29, List.size_toArray, List.length_cons, List.length_nil, Nat.reduceAdd, Nat.reduceSub, Array.replicate_succ, Array.replicate_zero, List.push_toArray, List.append_toArray, List.nil_append, List.cons_append]
  go_wp2_with fail
  (with_reducible refine (layout_any _ _).mono ?_)
  rintro e w1 ⟨rfl, rfl⟩
  go_wp2_with fail
  clear hc hcA
  obtain ⟨W0, hW0⟩ : ∃ W0, (((w.alloc (.cells #[.int .u8 0, .int .i64 0, .int .i64 0, .int .i64 0, .int .i64 0, .complex .f64 0 0, .int .i64 0, .int .i64 0] 42)).alloc (.cells #[.int .i64 0, .int .i64 0, .int .i64 0, .int .i64 0, .int .i64 0, .int .i64 0, .int .i64 0] 68)).alloc (.cells #[.slice (some ⟨blk, off, none⟩) 20 (20 + c)] 22)).alloc (.cells #[.int .u8 1] 5) = W0 := ⟨_, rfl⟩
  have hsz : W0.heap.size = w.heap.size + 4 := by rw [← hW0]; simp
  have hI : RIn blk off c 7 20 evSn (evC zs) w 0 W0 := by
    rw [← hW0]
    refine ⟨⟨_, ?_, fun _ => rfl⟩, ?_, ?_, ?_⟩
    · have h := (Boxed.new ((w.alloc (.cells #[.int .u8 0, .int .i64 0, .int .i64 0, .int .i64 0, .int .i64 0, .complex .f64 0 0, .int .i64 0, .int .i64 0] 42)).alloc (.cells #[.int .i64 0, .int .i64 0, .int .i64 0, .int .i64 0, .int .i64 0, .int .i64 0, .int .i64 0] 68)) 22 (.slice (some ⟨blk, off, none⟩) 20 (20 + c))).alloc (.cells #[.int .u8 1] 5)
      rw [World.size_alloc, World.size_alloc] at h
      exact h
    · intro i hi
      rcases below7 hi with rfl | rfl | rfl | rfl | rfl | rfl | rfl <;> simp [go_sem, evC, mkC]
    · intro i hi
      rcases (show i = 0 ∨ i = 1 ∨ i = 2 ∨ i = 3 ∨ i = 4 ∨ i = 5 ∨ i = 6 ∨ i = 7 by omega) with rfl | rfl | rfl | rfl | rfl | rfl | rfl | rfl <;> simp [go_sem]
    · exact (((Below.refl _ _).alloc (Nat.le_refl _) _ |>.alloc (by simp) _).alloc (by simp <;> omega) _).alloc (by simp <;> omega) _
  have bN : Boxed W0 (w.heap.size + 1 + 1 + 1) 5 (.int .u8 1) := by
    rw [← hW0]
    have h := Boxed.new (((w.alloc (.cells #[.int .u8 0, .int .i64 0, .int .i64 0, .int .i64 0, .int .i64 0, .complex .f64 0 0, .int .i64 0, .int .i64 0] 42)).alloc (.cells #[.int .i64 0, .int .i64 0, .int .i64 0, .int .i64 0, .int .i64 0, .int .i64 0, .int .i64 0] 68)).alloc (.cells #[.slice (some ⟨blk, off, none⟩) 20 (20 + c)] 22)) 5 (.int .u8 1)
    rwa [World.size_alloc, World.size_alloc, World.size_alloc] at h
  rw [hW0]
  clear hW0
  refine (wpIn_wide (n := 9)).1 ?_
  refine wpIn_rangeFunc_row rfl (by omega) (gf := 46) (lb := #[.pointer (some ⟨w.heap.size + 1 + 1 + 1, 0, none⟩)]) rfl trivial (enters_of Try.func46 (by kernel_rfl) rfl)
    (event_tells 8 (w.heap.size + 1 + 1 + 1) (by omega) W0 bN) (Below.refl _ _) (fun k hk => by rw [ev_at k hk]; rfl)
    (RIn blk off c 7 20 evSn (evC zs) w) (fun _ _ => False) (RIn_own blk off c 7 20 evSn (evC zs) w _ (by omega)) (fun _ _ _ _ hs _ _ => hs) (fun _ _ h => h)
    hI
    (fun k => { tmps := #[.slice (some ⟨blk, off, none⟩) 20 (20 + c), undef, .pointer (some ⟨w.heap.size, 0, none⟩), .pointer (some ⟨w.heap.size + 1, 0, none⟩), .pointer (some ⟨w.heap.size + 1 + 1, 0, none⟩), .int .i64 (evP k), .int .i64 (evW k), undef, .slice (some ⟨blk, off, none⟩) 20 (20 + c), .slice (some ⟨blk, off, none⟩) 20 (20 + c), .pointer (some ⟨blk, off, none⟩), .int .u8 1, .func (.func 46) #[] #[.pointer (some ⟨w.heap.size + 1 + 1 + 1, 0, none⟩)], .int .i64 (evP k), .int .i64 (evW k), undef, undef, undef, undef, undef, undef, undef, undef, undef, undef, undef, undef, undef, undef, undef, undef, undef, undef, undef, undef, undef, undef, undef, undef, undef, undef, undef, undef, undef, undef, undef, undef, undef, undef, undef], defers := [] }) ?assign ?body ?done ?stop
  case assign =>
    intro l k W K hk hK
    rw [ev_at k hk]
    gi_wp2
    exact hK
  case body =>
    rintro l k W hk ⟨⟨v, hv, he⟩, hn, hr, hB⟩
    have HSZ := Lib.hid hsz
    clear hsz hI bN
    have hZW : ∀ i, i < 20 → W.cell? ⟨blk, off + i, none⟩ = some (.int .u8 (zs[i]?.getD 0)) := fun i hi => bcell hB hb (HZ.out i hi)
    have hbW : blk < W.heap.size := Nat.lt_of_lt_of_le hb hB.size
    have htk := Lib.hid (fun s b cap hs hb' hcap => chunk_take blk off s b cap 20 zs W hZW HL.out HW.out hs hb' hcap hbW)
    clear hZW
    rcases below7 hk with rfl | rfl | rfl | rfl | rfl | rfl | rfl
    · have e := he (by omega)
      have e2 : v = .slice (some ⟨blk, off, none⟩) 20 (20 + c) := e
      subst e2
      clear e he
      have hc := hv.cell
      have hf := hv.frozen
      have hT := Lib.hid (htk.out 0 1 (20 + c) (by omega) (by omega) (by omega))
      obtain ⟨n0, n1⟩ := hn 0 (by omega)
      have n0' : W.cell? ⟨w.heap.size + 1, 0, none⟩ = some (.int .i64 0) := n0
      clear n0
      have hv2 := fun x => hv.other (B' := w.heap.size + 1) (by omega) x
      have hvs : ∀ x, (W.setCell ⟨w.heap.size + 1, 0, none⟩ x).cell? ⟨w.heap.size + 1 + 1, 0, none⟩ = some (.slice (some ⟨blk, off, none⟩) 20 (20 + c)) := fun x => set_far (by simp) hc
      clear hv2
      simp only [show evP 0 = 0 from rfl, show evW 0 = 1 from rfl]
      gi_wp2_with fail
      refine ⟨trivial, ?_⟩
      refine (((callsIn_wide (n := 6)).2 hT.out).inRound l).mono ?_
      rintro e W3 ⟨rfl, rfl⟩
      gi_wp2
      all_goals
        refine ⟨((KeepsOthers.setCell _ _ _).trans (KeepsOthers.setCell _ _ _)).from _, ?_, ?_, (hr.set _ _).set _ _, (hB.setCell (by show _ ≤ _ + 1; omega) _).setCell (by show _ ≤ _ + 1 + 1; omega) _⟩
        · exact ⟨_, (boxed_far hv (by omega) _ _).set _, fun h => slice_eq (by simp [evSn] <;> omega) (by simp [evSn] <;> omega) (by simp [evSn] <;> omega)⟩
        · refine ((hn.set 0 (by omega) _).other _ _ _ (by omega)).like (fun i hi => ?_)
          rcases below7 hi with rfl | rfl | rfl | rfl | rfl | rfl | rfl <;> simp [evC, evV, mkC]
    · have e := he (by omega)
      have e2 : v = .slice (some ⟨blk, off + 1, none⟩) 19 (19 + c) := e
      subst e2
      clear e he
      have hc := hv.cell
      have hf := hv.frozen
      have hT := Lib.hid (htk.out 1 6 (19 + c) (by omega) (by omega) (by omega))
      obtain ⟨n0, n1⟩ := hn 1 (by omega)
      have n0' : W.cell? ⟨w.heap.size + 1, 1, none⟩ = some (.int .i64 0) := n0
      clear n0
      have hv2 := fun x => hv.other (B' := w.heap.size + 1) (by omega) x
      have hvs : ∀ x, (W.setCell ⟨w.heap.size + 1, 1, none⟩ x).cell? ⟨w.heap.size + 1 + 1, 0, none⟩ = some (.slice (some ⟨blk, off + 1, none⟩) 19 (19 + c)) := fun x => set_far (by simp) hc
      clear hv2
      simp only [show evP 1 = 1 from rfl, show evW 1 = 6 from rfl]
      gi_wp2_with fail
      refine ⟨trivial, ?_⟩
      refine (((callsIn_wide (n := 6)).2 hT.out).inRound l).mono ?_
      rintro e W3 ⟨rfl, rfl⟩
      gi_wp2
      all_goals
        refine ⟨((KeepsOthers.setCell _ _ _).trans (KeepsOthers.setCell _ _ _)).from _, ?_, ?_, (hr.set _ _).set _ _, (hB.setCell (by show _ ≤ _ + 1; omega) _).setCell (by show _ ≤ _ + 1 + 1; omega) _⟩
        · exact ⟨_, (boxed_far hv (by omega) _ _).set _, fun h => slice_eq (by simp [evSn] <;> omega) (by simp [evSn] <;> omega) (by simp [evSn] <;> omega)⟩
        · refine ((hn.set 1 (by omega) _).other _ _ _ (by omega)).like (fun i hi => ?_)
          rcases below7 hi with rfl | rfl | rfl | rfl | rfl | rfl | rfl <;> simp [evC, evV, mkC]
    · have e := he (by omega)
      have e2 : v = .slice (some ⟨blk, off + 7, none⟩) 13 (13 + c) := e
      subst e2
      clear e he
      have hc := hv.cell
      have hf := hv.frozen
      have hT := Lib.hid (htk.out 7 1 (13 + c) (by omega) (by omega) (by omega))
      obtain ⟨n0, n1⟩ := hn 2 (by omega)
      have n0' : W.cell? ⟨w.heap.size + 1, 2, none⟩ = some (.int .i64 0) := n0
      clear n0
      have hv2 := fun x => hv.other (B' := w.heap.size + 1) (by omega) x
      have hvs : ∀ x, (W.setCell ⟨w.heap.size + 1, 2, none⟩ x).cell? ⟨w.heap.size + 1 + 1, 0, none⟩ = some (.slice (some ⟨blk, off + 7, none⟩) 13 (13 + c)) := fun x => set_far (by simp) hc
      clear hv2
      simp only [show evP 2 = 2 from rfl, show evW 2 = 1 from rfl]
      gi_wp2_with fail
      refine ⟨trivial, ?_⟩
      refine (((callsIn_wide (n := 6)).2 hT.out).inRound l).mono ?_
      rintro e W3 ⟨rfl, rfl⟩
      gi_wp2
      all_goals
        refine ⟨((KeepsOthers.setCell _ _ _).trans (KeepsOthers.setCell _ _ _)).from _, ?_, ?_, (hr.set _ _).set _ _, (hB.setCell (by show _ ≤ _ + 1; omega) _).setCell (by show _ ≤ _ + 1 + 1; omega) _⟩
        · exact ⟨_, (boxed_far hv (by omega) _ _).set _, fun h => slice_eq (by simp [evSn] <;> omega) (by simp [evSn] <;> omega) (by simp [evSn] <;> omega)⟩
        · refine ((hn.set 2 (by omega) _).other _ _ _ (by omega)).like (fun i hi => ?_)
          rcases below7 hi with rfl | rfl | rfl | rfl | rfl | rfl | rfl <;> simp [evC, evV, mkC]
    · have e := he (by omega)
      have e2 : v = .slice (some ⟨blk, off + 8, none⟩) 12 (12 + c) := e
      subst e2
      clear e he
      have hc := hv.cell
      have hf := hv.frozen
      have hT := Lib.hid (htk.out 8 3 (12 + c) (by omega) (by omega) (by omega))
      obtain ⟨n0, n1⟩ := hn 3 (by omega)
      have n0' : W.cell? ⟨w.heap.size + 1, 3, none⟩ = some (.int .i64 0) := n0
      clear n0
      have hv2 := fun x => hv.other (B' := w.heap.size + 1) (by omega) x
      have hvs : ∀ x, (W.setCell ⟨w.heap.size + 1, 3, none⟩ x).cell? ⟨w.heap.size + 1 + 1, 0, none⟩ = some (.slice (some ⟨blk, off + 8, none⟩) 12 (12 + c)) := fun x => set_far (by simp) hc
      clear hv2
      simp only [show evP 3 = 3 from rfl, show evW 3 = 3 from rfl]
      gi_wp2_with fail
      refine ⟨trivial, ?_⟩
      refine (((callsIn_wide (n := 6)).2 hT.out).inRound l).mono ?_
      rintro e W3 ⟨rfl, rfl⟩
      gi_wp2
      all_goals
        refine ⟨((KeepsOthers.setCell _ _ _).trans (KeepsOthers.setCell _ _ _)).from _, ?_, ?_, (hr.set _ _).set _ _, (hB.setCell (by show _ ≤ _ + 1; omega) _).setCell (by show _ ≤ _ + 1 + 1; omega) _⟩
        · exact ⟨_, (boxed_far hv (by omega) _ _).set _, fun h => slice_eq (by simp [evSn] <;> omega) (by simp [evSn] <;> omega) (by simp [evSn] <;> omega)⟩
        · refine ((hn.set 3 (by omega) _).other _ _ _ (by omega)).like (fun i hi => ?_)
          rcases below7 hi with rfl | rfl | rfl | rfl | rfl | rfl | rfl <;> simp [evC, evV, mkC]
    · have e := he (by omega)
      have e2 : v = .slice (some ⟨blk, off + 11, none⟩) 9 (9 + c) := e
      subst e2
      clear e he
      have hc := hv.cell
      have hf := hv.frozen
      have hT := Lib.hid (htk.out 11 1 (9 + c) (by omega) (by omega) (by omega))
      obtain ⟨n0, n1⟩ := hn 4 (by omega)
      have n0' : W.cell? ⟨w.heap.size + 1, 4, none⟩ = some (.int .i64 0) := n0
      clear n0
      have hv2 := fun x => hv.other (B' := w.heap.size + 1) (by omega) x
      have hvs : ∀ x, (W.setCell ⟨w.heap.size + 1, 4, none⟩ x).cell? ⟨w.heap.size + 1 + 1, 0, none⟩ = some (.slice (some ⟨blk, off + 11, none⟩) 9 (9 + c)) := fun x => set_far (by simp) hc
      clear hv2
      simp only [show evP 4 = 4 from rfl, show evW 4 = 1 from rfl]
      gi_wp2_with fail
      refine ⟨trivial, ?_⟩
      refine (((callsIn_wide (n := 6)).2 hT.out).inRound l).mono ?_
      rintro e W3 ⟨rfl, rfl⟩
      gi_wp2
      all_goals
        refine ⟨((KeepsOthers.setCell _ _ _).trans (KeepsOthers.setCell _ _ _)).from _, ?_, ?_, (hr.set _ _).set _ _, (hB.setCell (by show _ ≤ _ + 1; omega) _).setCell (by show _ ≤ _ + 1 + 1; omega) _⟩
        · exact ⟨_, (boxed_far hv (by omega) _ _).set _, fun h => slice_eq (by simp [evSn] <;> omega) (by simp [evSn] <;> omega) (by simp [evSn] <;> omega)⟩
        · refine ((hn.set 4 (by omega) _).other _ _ _ (by omega)).like (fun i hi => ?_)
          rcases below7 hi with rfl | rfl | rfl | rfl | rfl | rfl | rfl <;> simp [evC, evV, mkC]
    · have e := he (by omega)
      have e2 : v = .slice (some ⟨blk, off + 12, none⟩) 8 (8 + c) := e
      subst e2
      clear e he
      have hc := hv.cell
      have hf := hv.frozen
      have hT := Lib.hid (htk.out 12 4 (8 + c) (by omega) (by omega) (by omega))
      obtain ⟨n0, n1⟩ := hn 5 (by omega)
      have n0' : W.cell? ⟨w.heap.size + 1, 5, none⟩ = some (.int .i64 0) := n0
      clear n0
      have hv2 := fun x => hv.other (B' := w.heap.size + 1) (by omega) x
      have hvs : ∀ x, (W.setCell ⟨w.heap.size + 1, 5, none⟩ x).cell? ⟨w.heap.size + 1 + 1, 0, none⟩ = some (.slice (some ⟨blk, off + 12, none⟩) 8 (8 + c)) := fun x => set_far (by simp) hc
      clear hv2
      simp only [show evP 5 = 5 from rfl, show evW 5 = 4 from rfl]
      gi_wp2_with fail
      refine ⟨trivial, ?_⟩
      refine (((callsIn_wide (n := 6)).2 hT.out).inRound l).mono ?_
      rintro e W3 ⟨rfl, rfl⟩
      gi_wp2
      all_goals
        refine ⟨((KeepsOthers.setCell _ _ _).trans (KeepsOthers.setCell _ _ _)).from _, ?_, ?_, (hr.set _ _).set _ _, (hB.setCell (by show _ ≤ _ + 1; omega) _).setCell (by show _ ≤ _ + 1 + 1; omega) _⟩
        · exact ⟨_, (boxed_far hv (by omega) _ _).set _, fun h => slice_eq (by simp [evSn] <;> omega) (by simp [evSn] <;> omega) (by simp [evSn] <;> omega)⟩
        · refine ((hn.set 5 (by omega) _).other _ _ _ (by omega)).like (fun i hi => ?_)
          rcases below7 hi with rfl | rfl | rfl | rfl | rfl | rfl | rfl <;> simp [evC, evV, mkC]
    · have e := he (by omega)
      have e2 : v = .slice (some ⟨blk, off + 16, none⟩) 4 (4 + c) := e
      subst e2
      clear e he
      have hc := hv.cell
      have hf := hv.frozen
      have hT := Lib.hid (htk.out 16 4 (4 + c) (by omega) (by omega) (by omega))
      obtain ⟨n0, n1⟩ := hn 6 (by omega)
      have n0' : W.cell? ⟨w.heap.size + 1, 6, none⟩ = some (.int .i64 0) := n0
      clear n0
      have hv2 := fun x => hv.other (B' := w.heap.size + 1) (by omega) x
      have hvs : ∀ x, (W.setCell ⟨w.heap.size + 1, 6, none⟩ x).cell? ⟨w.heap.size + 1 + 1, 0, none⟩ = some (.slice (some ⟨blk, off + 16, none⟩) 4 (4 + c)) := fun x => set_far (by simp) hc
      clear hv2
      simp only [show evP 6 = 6 from rfl, show evW 6 = 4 from rfl]
      gi_wp2_with fail
      refine ⟨trivial, ?_⟩
      refine (((callsIn_wide (n := 6)).2 hT.out).inRound l).mono ?_
      rintro e W3 ⟨rfl, rfl⟩
      gi_wp2
      all_goals
        refine ⟨((KeepsOthers.setCell _ _ _).trans (KeepsOthers.setCell _ _ _)).from _, ?_, ?_, (hr.set _ _).set _ _, (hB.setCell (by show _ ≤ _ + 1; omega) _).setCell (by show _ ≤ _ + 1 + 1; omega) _⟩
        · exact ⟨_, (boxed_far hv (by omega) _ _).set _, fun h => absurd h (by omega)⟩
        · refine ((hn.set 6 (by omega) _).other _ _ _ (by omega)).like (fun i hi => ?_)
          rcases below7 hi with rfl | rfl | rfl | rfl | rfl | rfl | rfl <;> simp [evC, evV, mkC]
  case done =>
    rintro D W hD ⟨_, hn, hr, hB⟩ hK
    have hDw : w.heap.size ≤ D := by omega
    have n0 : W.cell? ⟨w.heap.size + 1, 0, none⟩ = some (.int .i64 1) := by rw [← H0.out]; exact (hn 0 (by omega)).1
    have n1 : W.cell? ⟨w.heap.size + 1, 1, none⟩ = some (.int .i64 (evV zs 1)) := (hn 1 (by omega)).1
    have n2 : W.cell? ⟨w.heap.size + 1, 2, none⟩ = some (.int .i64 (evV zs 2)) := (hn 2 (by omega)).1
    have n3 : W.cell? ⟨w.heap.size + 1, 3, none⟩ = some (.int .i64 (evV zs 3)) := (hn 3 (by omega)).1
    have n4 : W.cell? ⟨w.heap.size + 1, 4, none⟩ = some (.int .i64 (evV zs 4)) := (hn 4 (by omega)).1
    have n5 : W.cell? ⟨w.heap.size + 1, 5, none⟩ = some (.int .i64 (evV zs 5)) := (hn 5 (by omega)).1
    have n6 : W.cell? ⟨w.heap.size + 1, 6, none⟩ = some (.int .i64 (evV zs 6)) := (hn 6 (by omega)).1
    have hsW : w.heap.size < W.heap.size := World.block_lt_of_cell? W _ (hr.at (o := 0) (by omega))
    have b5 := evV_four zs 12 HL.out HW.out
    have b6 := evV_four zs 16 HL.out HW.out
    have p5 := Lib.hid (fun w => part_any (evV zs 5) w b5.1 b5.2)
    have p6 := Lib.hid (fun w => part_any (evV zs 6) w b6.1 b6.2)
    clear hn hsz hI bN b5 b6
    obtain ⟨x5, hx5⟩ : ∃ x, evV zs 5 = x := ⟨_, rfl⟩
    obtain ⟨x6, hx6⟩ : ∃ x, evV zs 6 = x := ⟨_, rfl⟩
    rw [hx5] at n5 p5
    rw [hx6] at n6 p6
    have E5 := Lib.hid hx5
    have E6 := Lib.hid hx6
    clear hx5 hx6
    go_wp2_with fail
    go_quiet ((first | ((go_at_call 39; exact Calls.quiet_of_same ((p5.out _).mono fun _ _ h => ⟨h.1, h.2.symm⟩))) | ((go_at_call 39; exact Calls.quiet_of_same ((p6.out _).mono fun _ _ h => ⟨h.1, h.2.symm⟩)))))
    obtain ⟨W1, hW1⟩ : ∃ W1, W.drewN nq = W1 := ⟨_, rfl⟩
    have hbd : Below W.heap.size W W1 := by rw [← hW1]; exact below_drewN (Below.refl _ _) nq
    rw [hW1]
    have hl1 : w.heap.size + 1 < W.heap.size := World.block_lt_of_cell? W _ n1
    replace n1 := bcell hbd hl1 n1
    replace n2 := bcell hbd hl1 n2
    replace n3 := bcell hbd hl1 n3
    replace n4 := bcell hbd hl1 n4
    replace hr := hr.later hsW hbd
    replace hK := (hbd.block D (Array.getElem?_eq_some_iff.1 hK).1).trans hK
    replace hB := hB.trans (hbd.mono hB.size)
    replace hsW : w.heap.size < W1.heap.size := Nat.lt_of_lt_of_le hsW hbd.size
    clear hW1 n0 n5 n6 p5 p6 hl1 hbd
    go_wp2_with fail
    (with_reducible refine (of_any _ _ _ _ _ _ _).mono ?_)
    rintro e W3 ⟨rfl, hb3⟩
    have hr3 := hr.later (by omega) hb3
    have hK3 : W3.heap[D]? = some (.deferred (some [])) := (hb3.block D (Array.getElem?_eq_some_iff.1 hK).1).trans hK
    have hB3 : Below w.heap.size w W3 := hB.trans (hb3.mono hB.size)
    have r0 := hr3.at (o := 0) (by omega)
    have r1 := hr3.at (o := 1) (by omega)
    have r2 := hr3.at (o := 2) (by omega)
    have r3 := hr3.at (o := 3) (by omega)
    have r4 := hr3.at (o := 4) (by omega)
    have r5 := hr3.at (o := 5) (by omega)
    have r6 := hr3.at (o := 6) (by omega)
    have r7 := hr3.at (o := 7) (by omega)
    have f0 := (hr3 0 (by omega)).2
    have f1 := (hr3 1 (by omega)).2
    have f2 := (hr3 2 (by omega)).2
    have f3 := (hr3 3 (by omega)).2
    have f4 := (hr3 4 (by omega)).2
    have f5 := (hr3 5 (by omega)).2
    have f6 := (hr3 6 (by omega)).2
    have f7 := (hr3 7 (by omega)).2
    clear hr hb3 hK hB n1 n2 n3 n4
    go_wp2
    obtain ⟨d0, d1, d2, d3, d4, d5, d6, d7⟩ := eight_held (W := W3) (B := w.heap.size) (v0 := .int .u8 1) (v1 := .int .i64 (evV zs 1)) (v2 := .int .i64 (evV zs 2)) (v3 := .int .i64 (evV zs 3)) (v4 := .int .i64 (evV zs 4)) (v5 := .complex .f64 (floatOfInt .f64 (part32 x5)) (floatOfInt .f64 (part32 x6))) (v6 := .int .i64 0) (v7 := .int .i64 0) hr3
    have hK4 : (((((((((W3.setCell ⟨w.heap.size, 0, none⟩ (.int .u8 1)).setCell ⟨w.heap.size, 1, none⟩ (.int .i64 (evV zs 1))).setCell ⟨w.heap.size, 2, none⟩ (.int .i64 (evV zs 2))).setCell ⟨w.heap.size, 3, none⟩ (.int .i64 (evV zs 3))).setCell ⟨w.heap.size, 4, none⟩ (.int .i64 (evV zs 4))).setCell ⟨w.heap.size, 5, none⟩ (.complex .f64 (floatOfInt .f64 (part32 x5)) (floatOfInt .f64 (part32 x6)))).setCell ⟨w.heap.size, 6, none⟩ (.int .i64 0)).setCell ⟨w.heap.size, 7, none⟩ (.int .i64 0))).heap[D]? = some (.deferred (some [])) := ((((((((KeepsOthers.setCell _ _ _).trans (KeepsOthers.setCell _ _ _)).trans (KeepsOthers.setCell _ _ _)).trans (KeepsOthers.setCell _ _ _)).trans (KeepsOthers.setCell _ _ _)).trans (KeepsOthers.setCell _ _ _)).trans (KeepsOthers.setCell _ _ _)).trans (KeepsOthers.setCell _ _ _)).same D _ hK3 rfl
    have hB4 : Below w.heap.size w (((((((((W3.setCell ⟨w.heap.size, 0, none⟩ (.int .u8 1)).setCell ⟨w.heap.size, 1, none⟩ (.int .i64 (evV zs 1))).setCell ⟨w.heap.size, 2, none⟩ (.int .i64 (evV zs 2))).setCell ⟨w.heap.size, 3, none⟩ (.int .i64 (evV zs 3))).setCell ⟨w.heap.size, 4, none⟩ (.int .i64 (evV zs 4))).setCell ⟨w.heap.size, 5, none⟩ (.complex .f64 (floatOfInt .f64 (part32 x5)) (floatOfInt .f64 (part32 x6)))).setCell ⟨w.heap.size, 6, none⟩ (.int .i64 0)).setCell ⟨w.heap.size, 7, none⟩ (.int .i64 0))) := (((((((hB3.setCell (Nat.le_refl _) _).setCell (Nat.le_refl _) _).setCell (Nat.le_refl _) _).setCell (Nat.le_refl _) _).setCell (Nat.le_refl _) _).setCell (Nat.le_refl _) _).setCell (Nat.le_refl _) _).setCell (Nat.le_refl _) _
    clear r0 r1 r2 r3 r4 r5 r6 r7 f0 f1 f2 f3 f4 f5 f6 f7 hr3 hK3 hB3
    generalize ((((((((W3.setCell ⟨w.heap.size, 0, none⟩ (.int .u8 1)).setCell ⟨w.heap.size, 1, none⟩ (.int .i64 (evV zs 1))).setCell ⟨w.heap.size, 2, none⟩ (.int .i64 (evV zs 2))).setCell ⟨w.heap.size, 3, none⟩ (.int .i64 (evV zs 3))).setCell ⟨w.heap.size, 4, none⟩ (.int .i64 (evV zs 4))).setCell ⟨w.heap.size, 5, none⟩ (.complex .f64 (floatOfInt .f64 (part32 x5)) (floatOfInt .f64 (part32 x6)))).setCell ⟨w.heap.size, 6, none⟩ (.int .i64 0)).setCell ⟨w.heap.size, 7, none⟩ (.int .i64 0)) = W5 at *
    have hg := grownBy_putObj' W5 D (.deferred none)
    have hrow : ∀ r, some D = some r → ∃ o : Obj, W5.heap[r]? = some o ∧ o.isCells = false := fun r e => by cases e; exact ⟨_, hK4, rfl⟩
    replace d0 := cell_kept d0 hg hrow
    replace d1 := cell_kept d1 hg hrow
    replace d2 := cell_kept d2 hg hrow
    replace d3 := cell_kept d3 hg hrow
    replace d4 := cell_kept d4 hg hrow
    replace d5 := cell_kept d5 hg hrow
    replace d6 := cell_kept d6 hg hrow
    replace d7 := cell_kept d7 hg hrow
    have hbl := hB4.trans (belowK_b (w := w) (Nat.le_refl _) W5 D _ (.deferred none) hDw hK4 rfl rfl)
    refine ⟨by simp, .inl ⟨_, _, rfl, run_takeDeferred hK4, ?_⟩⟩
    clear hg hrow hK4 hB4
    generalize W5.putObj D (.deferred none) = W6 at *
    exact ⟨RV 1 (evV zs 1) (evV zs 2) (evV zs 3) (evV zs 4) (floatOfInt .f64 (part32 x5)) (floatOfInt .f64 (part32 x6)) 0 0, by simp [results, Try.results29, go_sem, d0, d1, d2, d3, d4, d5, d6, d7], by rw [← E5.out, ← E6.out], hbl⟩
  case stop =>
    rintro D c W _ h _
    exact h.elim
end Go.Proofs.Ytepbjjddpfejnaa
