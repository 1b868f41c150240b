/-
  The standing examples of stage 7 hold: the law's wakes returns true, where the ways of comparing lie as they are laid; contract of lex.All by what its tokens are.
-/
import Derived.Test.YtmjpmcefoebjpaaDoorLK
import Derived.Test.YtmjpmcefoebjpaaDoorLN
namespace Go.Proofs.YtmjpmcefoebjpaaDoor
open Go.ChangeShapes Go.WideShapes Go.ChangeAt Go.RowKit
set_option linter.unusedVariables false
set_option linter.unusedSimpArgs false
attribute [local go_sem] Oper.semAt_some
theorem Toks.lastOf {e : Bs} {p : Nat} {l : Bs} {ts : List (Tk × Nat)} (h : Toks e p l ts) : ∀ i x, ts[i]? = some x → textT x.1 = [] → i + 1 = ts.length := by
  induction h with
  | fin p b h1 h2 =>
    intro i x hx _
    have := (List.getElem?_eq_some_iff.1 hx).1
    simp at this ⊢; exact this
  | tok p b t r ts h1 h2 h3 ih =>
    intro i x hx h
    cases i with
    | zero =>
      obtain rfl : (t, p + b) = x := by simpa using hx
      exact absurd h h1
    | succ i => have := ih i x (by simpa using hx) h; simp; omega
theorem text6 {t : Tk} (h : t.k = 6) : textT t = [] := by unfold textT; simp [h]
theorem lexAll_ok (l : Bs) (w : World) (hl : l.length ≤ 2000) (ho : OpsAt w) (h : ∀ x ∈ toks l, x.1.k ≠ 6) :
    Calls Tryd.prog 9 #[S l] w fun e w' => ∃ v, e = .returned (.tuple #[v, .int .i64 0, .int .i64 0]) ∧ TksAt w.heap.size v (toks l) w' ∧ Below w.heap.size w w' := by
  refine (all_short l w hl ho).mono ?_
  rintro e w' (⟨_, ⟨v, rfl, hr⟩, hb⟩ | ⟨k, t, p, h1, h2, _⟩)
  · exact ⟨v, rfl, hr, hb⟩
  · exact absurd h2 (h _ (List.mem_of_getElem? h1))
theorem lexAll_bad (l : Bs) (w : World) (hl : l.length ≤ 2000) (ho : OpsAt w) (t : Tk) (p : Nat) (h : (t, p) ∈ toks l) (h6 : t.k = 6) :
    Calls Tryd.prog 9 #[S l] w fun e w' => e = .returned (.tuple #[.slice none 0 0, .int .i64 (p : Nat), .int .i64 70]) ∧ Below w.heap.size w w' := by
  refine (all_short l w hl ho).mono ?_
  rintro e w' (⟨hn, _⟩ | ⟨k, t', p', h1, h2, rfl, hb⟩)
  · exact absurd h6 (hn _ h)
  · obtain ⟨i, hi⟩ := List.mem_iff_getElem?.1 h
    obtain ⟨e, hT⟩ := toks_some l
    have e1 := hT.lastOf i _ hi (text6 h6)
    have e2 := hT.lastOf k _ h1 (text6 h2)
    obtain rfl : i = k := by omega
    rw [hi] at h1
    cases h1
    exact ⟨rfl, hb⟩
theorem Toks.step {e : Bs} {p b : Nat} {t : Tk} {x r : Bs} {ts : List (Tk × Nat)} {l' : Bs} {p' : Nat} (hx : textT t = x) (hn : x ≠ []) (ho : okNext t r.head? = true) (hp : p + b + x.length = p') (hl : bl b ++ (x ++ r) = l') (h : Toks e p' r ts) : Toks e p l' ((t, p + b) :: ts) := by
  subst hx hp hl
  exact Toks.tok p b t r ts hn ho h
theorem tx0 : textB 0 = [48] := by rw [textB_eq, if_neg (by decide)]; exact dgt_last 0 (by decide)
theorem tx1 : textB 1 = [49] := by rw [textB_eq, if_neg (by decide)]; exact dgt_last 1 (by decide)
theorem tx50 : textB 50 = [53, 48] := by rw [textB_eq, if_neg (by decide)]; show dgt 50 = _; rw [dgt_more 50 (by decide), dgt_last _ (by decide)]; decide
def wkA : Bs := [48, 97, 32, 119, 105, 116, 104, 105, 110, 32, 53, 48]
def wkAT : List (Tk × Nat) := [(⟨1, 0⟩, 0), (⟨2, 0⟩, 1), (⟨3, 0⟩, 3), (⟨1, 50⟩, 10), (⟨0, 0⟩, 12)]
theorem wkA_is : toks wkA = wkAT := by
  refine Toks.all (e := []) ?_
  refine Toks.step (b := 0) (x := [48]) (r := [97, 32, 119, 105, 116, 104, 105, 110, 32, 53, 48]) (p' := 1) (by rw [textT1, if_pos (by decide), tx0]) (by simp) (by decide) rfl rfl ?_
  refine Toks.step (b := 0) (x := [97]) (r := [32, 119, 105, 116, 104, 105, 110, 32, 53, 48]) (p' := 2) (by decide) (by simp) (by decide) rfl rfl ?_
  refine Toks.step (b := 1) (x := withinL) (r := [32, 53, 48]) (p' := 9) (by decide) (by simp [withinL]) (by decide) rfl rfl ?_
  refine Toks.step (b := 1) (x := [53, 48]) (r := []) (p' := 12) (by rw [textT1, if_pos (by decide), tx50]) (by simp) (by decide) rfl rfl ?_
  exact Toks.fin (e := []) 12 0 (by simp) rfl
def wkB : Bs := [49, 97, 32, 48, 48, 55]
theorem wkB_is : toks wkB = [(⟨1, 1⟩, 0), (⟨2, 0⟩, 1), (⟨6, 0⟩, 3)] := by
  refine Toks.all (e := [48, 48, 55]) ?_
  refine Toks.step (b := 0) (x := [49]) (r := [97, 32, 48, 48, 55]) (p' := 1) (by rw [textT1, if_pos (by decide), tx1]) (by simp) (by decide) rfl rfl ?_
  refine Toks.step (b := 0) (x := [97]) (r := [32, 48, 48, 55]) (p' := 2) (by decide) (by simp) (by decide) rfl rfl ?_
  have := Toks.fin (e := [48, 48, 55]) 2 1 (by decide) (by decide)
  rwa [show firstT [48, 48, 55] = ⟨6, 0⟩ by decide] at this
def wkC : Bs := [33, 33, 61, 60, 61]
def wkCT : List (Tk × Nat) := [(⟨5, 33⟩, 0), (⟨4, 4⟩, 1), (⟨4, 2⟩, 3), (⟨0, 0⟩, 5)]
theorem wkC_is : toks wkC = wkCT := by
  refine Toks.all (e := []) ?_
  refine Toks.step (b := 0) (x := [33]) (r := [33, 61, 60, 61]) (p' := 1) (by decide) (by simp) (by decide) rfl rfl ?_
  refine Toks.step (b := 0) (x := [33, 61]) (r := [60, 61]) (p' := 3) (by decide) (by simp) (by decide) rfl rfl ?_
  refine Toks.step (b := 0) (x := [60, 61]) (r := []) (p' := 5) (by decide) (by simp) (by decide) rfl rfl ?_
  exact Toks.fin (e := []) 5 0 (by simp) rfl
theorem tks_some {W : World} {base : Nat} {v : Value} {ts : List (Tk × Nat)} (h : TksAt base v ts W) (h0 : 0 < ts.length) : ∃ g c, v = .slice (some ⟨g, 0, none⟩) ts.length c := by
  rcases tks_shape h with ⟨_, rfl⟩ | h
  · cases h0
  · exact h
theorem wk_a (w : World) (ho : OpsAt w) : Calls Tryd.prog 9 #[.string ⟨#[48, 97, 32, 119, 105, 116, 104, 105, 110, 32, 53, 48]⟩] w fun e w' => ∃ g c, e = .returned (.tuple #[.slice (some ⟨g, 0, none⟩) 5 c, .int .i64 0, .int .i64 0]) ∧ TksAt w.heap.size (.slice (some ⟨g, 0, none⟩) 5 c) wkAT w' ∧ Below w.heap.size w w' := by
  refine (lexAll_ok wkA w (by decide) ho (by rw [wkA_is]; decide)).mono ?_
  rintro e w' ⟨v, rfl, ht, hb⟩
  rw [wkA_is] at ht
  obtain ⟨g, c, rfl⟩ := tks_some ht (by decide)
  exact ⟨g, c, rfl, ht, hb⟩
theorem wk_b (w : World) (ho : OpsAt w) : Calls Tryd.prog 9 #[.string ⟨#[49, 97, 32, 48, 48, 55]⟩] w fun e w' => e = .returned (.tuple #[.slice none 0 0, .int .i64 3, .int .i64 70]) ∧ Below w.heap.size w w' :=
  lexAll_bad wkB w (by decide) ho ⟨6, 0⟩ 3 (by rw [wkB_is]; decide) rfl
theorem wk_c (w : World) (ho : OpsAt w) : Calls Tryd.prog 9 #[.string ⟨#[33, 33, 61, 60, 61]⟩] w fun e w' => ∃ g c, e = .returned (.tuple #[.slice (some ⟨g, 0, none⟩) 4 c, .int .i64 0, .int .i64 0]) ∧ TksAt w.heap.size (.slice (some ⟨g, 0, none⟩) 4 c) wkCT w' ∧ Below w.heap.size w w' := by
  refine (lexAll_ok wkC w (by decide) ho (by rw [wkC_is]; decide)).mono ?_
  rintro e w' ⟨v, rfl, ht, hb⟩
  rw [wkC_is] at ht
  obtain ⟨g, c, rfl⟩ := tks_some ht (by decide)
  exact ⟨g, c, rfl, ht, hb⟩
theorem make2001 (w : World) : (Instr.makeSlice 35 (.int .i64 2001) (.int .i64 2001)).run Tryd.prog w = .ok (.slice (some ⟨w.heap.size, 0, none⟩) 2001 2001) (w.alloc (.cells (U (List.replicate 2001 0)).toArray 5)) := by
  obtain ⟨i, hi, hz, hs, hb⟩ := info_parts Tryd.info5
  have h := run_make (P := Tryd.prog) w 35 5 i (.int .u8 0) Tryd.underlying35 hi hz .i64 .i64 2001 2001 (by decide) (by decide) (by rw [hb]; decide) (by decide)
  rw [h, hs]
  have e : madeCells (Value.cells (.int .u8 0)) ((2001 : Int).toNat * 1) = (U (List.replicate 2001 0)).toArray := by
    apply Array.toList_inj.1
    rw [show Value.cells (.int .u8 0) = #[.int .u8 0] from rfl, toList_madeCells_one]
    unfold U
    rw [List.toList_toArray, List.map_replicate, Nat.mul_one, show (2001 : Int).toNat = 2001 from rfl]
  rw [e]
  rfl
theorem tkCells_len (ts : List (Tk × Nat)) : (tkCells ts).length = ts.length * 3 := by
  induction ts with
  | nil => rfl
  | cons x ts ih => rw [show tkCells (x :: ts) = [.int .u8 x.1.k, .int .i64 x.1.n, .int .i64 x.2] ++ tkCells ts by simp [tkCells], List.length_append, ih]; simp; omega
theorem conv_new (w : World) (zs : List Int) (n : Nat) (hn : zs.length = n) : (convert 35 9 (.slice (some ⟨w.heap.size, 0, none⟩) n n)).run Tryd.prog (w.alloc (.cells (U zs).toArray 5)) = .ok (.string (strOfNums zs)) (w.alloc (.cells (U zs).toArray 5)) :=
  run_convert_bytes_arg _ 35 5 Tryd.underlying35 Tryd.underlying5 w.heap.size 0 n n zs hn (fun i hi => by
    rw [Nat.zero_add, cell_of_row _ w.heap.size i _ 5 (0, 0) (World.alloc_heap_new w _)]
    simp [show i < zs.length by omega]) 9 Tryd.underlying9
theorem strOf_size (zs : List Int) : (strOfNums zs).size = zs.length := by
  unfold strOfNums; simp [ByteArray.size]
theorem tks_lit (w : World) (base : Nat) (ts : List (Tk × Nat)) (cs : Array Value) (n : Nat) (hb : base ≤ w.heap.size) (hn : n = ts.length) (hm : n ≤ maxLen) (hc : cs.toList = tkCells ts) : TksAt base (.slice (some ⟨w.heap.size, 0, none⟩) n n) ts (w.alloc (.cells cs 23)) := by
  subst hn
  have h := World.ownsRow_lit (e := 23) (size := 3) w cs ts.length hb hm (by rw [← Array.length_toList, hc, tkCells_len])
  rw [hc] at h
  exact h
theorem lexText_as (k n p : Int) (x : Bs) (hx : textT ⟨k, n⟩ = x) (w : World) (ho : OpsAt w) (hf : fits n = true) : Calls Tryd.prog 12 #[.agg #[.int .u8 k, .int .i64 n, .int .i64 p]] w fun e w' => e = .returned (S x) ∧ Below w.heap.size w w' := by
  subst hx
  exact lexText_any ⟨k, n⟩ p w ho hf
theorem bcell {w w' : World} (h : Below w.heap.size w w') {g i : Nat} {v : Value} (hc : w.cell? ⟨g, i, none⟩ = some v) : w'.cell? ⟨g, i, none⟩ = some v := (h.cell (p := ⟨g, i, none⟩) (World.block_lt_of_cell? w _ hc)).trans hc
set_option maxRecDepth 100000 in
set_option maxHeartbeats 4000000 in
theorem wakes_any (w : World) (ho : OpsAt w) : Calls Tryd.prog 8 #[] w fun e w' => e = .returned (.bool true) ∧ Below w.heap.size w w' := by
  have M := make2001
  have hz := Lib.hid (show (List.replicate 2001 (0 : Int)).length = 2001 from List.length_replicate)
  generalize List.replicate 2001 (0 : Int) = zs at *
  go_enter Tryd.func8, Tryd.ntmps8
  go_wp2_with fail
  (with_reducible refine (wk_a w ho).mono ?_)
  rintro e w1 ⟨g1, c1, rfl, ht1, hb1⟩
  have ho1 := ho.later hb1
  go_wp2_with fail
  (with_reducible refine (wk_b w1 ho1).mono ?_)
  rintro e w2 ⟨rfl, hb2⟩
  have hB2 := hb1.trans (hb2.mono hb1.size)
  have ht2 := ht1.later hb2
  have ho2 := ho1.later hb2
  clear ht1 hb1 hb2 ho1
  go_wp2_with fail
  (with_reducible refine (wk_c w2 ho2).mono ?_)
  rintro e w3 ⟨g3, c3, rfl, hc3, hb3⟩
  have hB3 := hB2.trans (hb3.mono hB2.size)
  have ht3 := ht2.later hb3
  have ho3 := ho2.later hb3
  have M3 := M w3
  have hv3 := conv_new w3 zs 2001 hz.out
  have hb4 : Below w3.heap.size w3 (w3.alloc (.cells (U zs).toArray 5)) := (Below.refl _ _).alloc (Nat.le_refl _) _
  have hB4 := hB3.trans (hb4.mono hB3.size)
  have ht4 := ht3.later hb4
  have hc4 := hc3.later hb4
  have ho4 := ho3.later hb4
  have hL := Lib.hid (all_long (strOfNums zs) (w3.alloc (.cells (U zs).toArray 5)) (by rw [strOf_size, hz.out]; decide))
  clear M ht2 hb3 hB2 ho2 hc3 ht3 ho3 hb4
  generalize strOfNums zs = sz at *
  go_wp2_with fail
  (with_reducible refine hL.out.mono ?_)
  generalize w3.alloc (.cells (U zs).toArray 5) = w4 at *
  rintro e w5 ⟨rfl, hb5⟩
  have hB5 := hB4.trans (hb5.mono hB4.size)
  have ht5 := ht4.later hb5
  have hc5 := hc4.later hb5
  have ho5 := ho4.later hb5
  clear M3 hv3 hz hL hB3 hB4 ht4 hc4 ho4 hb5
  have hb6 : Below w5.heap.size w5 (w5.alloc (.cells #[.int .u8 1, .int .i64 0, .int .i64 0, .int .u8 2, .int .i64 0, .int .i64 1, .int .u8 3, .int .i64 0, .int .i64 3, .int .u8 1, .int .i64 50, .int .i64 10, .int .u8 0, .int .i64 0, .int .i64 12] 23)) := (Below.refl _ _).alloc (Nat.le_refl _) _
  have hx6 : TksAt w.heap.size (.slice (some ⟨w5.heap.size, 0, none⟩) 5 5) wkAT (w5.alloc (.cells #[.int .u8 1, .int .i64 0, .int .i64 0, .int .u8 2, .int .i64 0, .int .i64 1, .int .u8 3, .int .i64 0, .int .i64 3, .int .u8 1, .int .i64 50, .int .i64 10, .int .u8 0, .int .i64 0, .int .i64 12] 23)) := tks_lit w5 _ wkAT _ 5 hB5.size rfl (by decide) rfl
  have hs6 : (w5.alloc (.cells #[.int .u8 1, .int .i64 0, .int .i64 0, .int .u8 2, .int .i64 0, .int .i64 1, .int .u8 3, .int .i64 0, .int .i64 3, .int .u8 1, .int .i64 50, .int .i64 10, .int .u8 0, .int .i64 0, .int .i64 12] 23)).heap.size = w5.heap.size + 1 := World.size_alloc _ _
  have hB6 := hB5.trans (hb6.mono hB5.size)
  have ht6 := ht5.later hb6
  have hc6 := hc5.later hb6
  have ho6 := ho5.later hb6
  have hb7 : Below (w5.alloc (.cells #[.int .u8 1, .int .i64 0, .int .i64 0, .int .u8 2, .int .i64 0, .int .i64 1, .int .u8 3, .int .i64 0, .int .i64 3, .int .u8 1, .int .i64 50, .int .i64 10, .int .u8 0, .int .i64 0, .int .i64 12] 23)).heap.size (w5.alloc (.cells #[.int .u8 1, .int .i64 0, .int .i64 0, .int .u8 2, .int .i64 0, .int .i64 1, .int .u8 3, .int .i64 0, .int .i64 3, .int .u8 1, .int .i64 50, .int .i64 10, .int .u8 0, .int .i64 0, .int .i64 12] 23)) ((w5.alloc (.cells #[.int .u8 1, .int .i64 0, .int .i64 0, .int .u8 2, .int .i64 0, .int .i64 1, .int .u8 3, .int .i64 0, .int .i64 3, .int .u8 1, .int .i64 50, .int .i64 10, .int .u8 0, .int .i64 0, .int .i64 12] 23)).alloc (.cells #[.int .u8 5, .int .i64 33, .int .i64 0, .int .u8 4, .int .i64 4, .int .i64 1, .int .u8 4, .int .i64 2, .int .i64 3, .int .u8 0, .int .i64 0, .int .i64 5] 23)) := (Below.refl _ _).alloc (Nat.le_refl _) _
  have hy7 : TksAt w.heap.size (.slice (some ⟨(w5.alloc (.cells #[.int .u8 1, .int .i64 0, .int .i64 0, .int .u8 2, .int .i64 0, .int .i64 1, .int .u8 3, .int .i64 0, .int .i64 3, .int .u8 1, .int .i64 50, .int .i64 10, .int .u8 0, .int .i64 0, .int .i64 12] 23)).heap.size, 0, none⟩) 4 4) wkCT ((w5.alloc (.cells #[.int .u8 1, .int .i64 0, .int .i64 0, .int .u8 2, .int .i64 0, .int .i64 1, .int .u8 3, .int .i64 0, .int .i64 3, .int .u8 1, .int .i64 50, .int .i64 10, .int .u8 0, .int .i64 0, .int .i64 12] 23)).alloc (.cells #[.int .u8 5, .int .i64 33, .int .i64 0, .int .u8 4, .int .i64 4, .int .i64 1, .int .u8 4, .int .i64 2, .int .i64 3, .int .u8 0, .int .i64 0, .int .i64 5] 23)) := tks_lit _ _ wkCT _ 4 hB6.size rfl (by decide) rfl
  rw [hs6] at hy7
  have hB7 := hB6.trans (hb7.mono hB6.size)
  have ht7 := ht6.later hb7
  have hc7 := hc6.later hb7
  have ho7 := ho6.later hb7
  have hx7 := hx6.later hb7
  clear hB5 ht5 hc5 ho5 hb6 hx6 hs6 hB6 ht6 hc6 ho6 hb7
  go_wp2_with fail
  generalize (w5.alloc (.cells #[.int .u8 1, .int .i64 0, .int .i64 0, .int .u8 2, .int .i64 0, .int .i64 1, .int .u8 3, .int .i64 0, .int .i64 3, .int .u8 1, .int .i64 50, .int .i64 10, .int .u8 0, .int .i64 0, .int .i64 12] 23)).alloc (.cells #[.int .u8 5, .int .i64 33, .int .i64 0, .int .u8 4, .int .i64 4, .int .i64 1, .int .u8 4, .int .i64 2, .int .i64 3, .int .u8 0, .int .i64 0, .int .i64 5] 23) = w7 at *
  (with_reducible refine (tokens_same _ _ _ _ wkAT w7 ht7 hx7 (by decide)).mono ?_)
  rintro e w8 ⟨rfl, hb8⟩
  have hB8 := hB7.trans (hb8.mono hB7.size)
  have hc8 := hc7.later hb8
  have ho8 := ho7.later hb8
  have hx8 := hx7.later hb8
  have hy8 := hy7.later hb8
  clear hB7 ht7 hc7 ho7 hx7 hy7 hb8
  go_wp2_with fail
  (with_reducible refine (tokens_same _ _ _ _ wkCT w8 hc8 hy8 (by decide)).mono ?_)
  rintro e w9 ⟨rfl, hb9⟩
  have hB9 := hB8.trans (hb9.mono hB8.size)
  have ho9 := ho8.later hb9
  obtain ⟨x0, x1, x2⟩ := tks_cell (hx8.later hb9) (i := 2) (x := (⟨3, 0⟩, 3)) rfl
  obtain ⟨y0, y1, y2⟩ := tks_cell (hy8.later hb9) (i := 1) (x := (⟨4, 4⟩, 1)) rfl
  have hxl := tks_lt (hx8.later hb9)
  simp only [Nat.reduceMul, Nat.reduceAdd, Int.cast_ofNat_Int] at x0 x1 x2 y0 y1 y2
  clear hB8 hc8 ho8 hx8 hy8 hb9
  go_wp2_with fail
  (with_reducible refine (lexText_as 4 4 1 [33, 61] (by decide) w9 ho9 (by decide)).mono ?_)
  rintro e w10 ⟨rfl, hb10⟩
  have hB10 := hB9.trans (hb10.mono hB9.size)
  have ho10 := ho9.later hb10
  have z0 := bcell hb10 x0
  have z1 := bcell hb10 x1
  have z2 := bcell hb10 x2
  clear hB9 ho9 x0 x1 x2 y0 y1 y2 hb10 hxl
  go_wp2_with fail
  (with_reducible refine (lexText_as 3 0 3 withinL (by decide) w10 ho10 (by decide)).mono ?_)
  rintro e w11 ⟨rfl, hb11⟩
  have hB11 := hB10.trans (hb11.mono hB10.size)
  have ho11 := ho10.later hb11
  clear hB10 ho10 z0 z1 z2 hb11
  unfold withinL
  go_wp2_with fail
  (with_reducible refine (lexText_as 9 0 0 [] (by decide) w11 ho11 (by decide)).mono ?_)
  rintro e w12 ⟨rfl, hb12⟩
  have hB12 := hB11.trans (hb12.mono hB11.size)
  go_wp2
  go_ret
  exact ⟨rfl, hB12⟩
end Go.Proofs.YtmjpmcefoebjpaaDoor
