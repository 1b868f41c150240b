/-
  Several texts in one: UV UW UY UJ UK UL.
-/
import Derived.Test.YtfkdgaeiiejjlaaGreatUZA
import Derived.Test.YtfkdgaeiiejjlaaGreatUQ
import Derived.Test.YtfkdgaeiiejjlaaGreatCZQ
import Derived.Test.YtfkdgaeiiejjlaaGreatUTA
import Derived.Deep.RegionHeld3
import Derived.Deep.RegionWith
import Derived.Deep.CutRange
/- Append of a row to a row of the function's own, which tells too where the row lies behind it: where it lay, or in new memory; rows that grow and are copied (the document's own longer). -/
namespace Go.Proofs.YtfkdgaeiiejjlaaGreat.Tree
open Go.ChangeShapes Go.WideShapes Go.ChangeAt Go.RowKit
set_option linter.unusedVariables false
set_option linter.unusedSimpArgs false
set_option maxRecDepth 100000
attribute [local go_sem] Oper.semAt_some
section
variable {P : Program} {w : World} {base : Nat} {e : TypeId} {size : Nat}
theorem run_append_blk (base : Nat) (t ty e : TypeId) (i : TypeInfo) (z : Value) (size bytes : Nat) (ht : P.underlying t = some (.slice e)) (hi : P.info? e = some i) (hz : i.zero = some z)
    (hsize : i.size = size) (hby : i.bytes = bytes) (hzs : z.cells.size = size) (hsz : 0 < size)
    (v : Value) (n : Nat) (xs : List Value) (hown : w.ownsRow base e size v n xs)
    (a : Option Addr) (m c : Nat) (news : List Value) (hl : news.length = m * size) (hnews : CellsAt w a news) (h1 : ∀ u ∈ news, u.oneCell' = true)
    (h63 : n + m ≤ maxLen) (hbytes : (n + m) * bytes ≤ 140737488355328) (hbase : base ≤ w.heap.size) :
    ∃ v' w', (Builtin.append_ #[t, t] ty #[v, .slice a m c]).run P w = .ok v' w' ∧ w'.ownsRow base e size v' (n + m) (xs ++ news) ∧ w.grownBy w' v.ownBlock ∧ ∀ g, v'.ownBlock = some g → v.ownBlock = some g ∨ g = w.heap.size := by
  obtain ⟨v', w', hr, h2, h3⟩ := run_append_cells (P := P) (w := w) base t ty e i z size bytes ht hi hz hsize hby hzs hsz v n xs hown a m c news hl hnews h1 h63 hbytes hbase
  refine ⟨v', w', hr, h2, h3, ?_⟩
  cases a with
  | none =>
    have := run_append_noslice (P := P) (w := w) base t ty e i size ht hi v n xs hown c
    have hm : m = 0 := by
      rcases hnews with rfl | ⟨b, o, h, _⟩
      · have hl0 : m * size = 0 := hl.symm
        rcases Nat.mul_eq_zero.1 hl0 with h | h
        · exact h
        · omega
      · cases h
    subst hm
    rw [this] at hr
    cases hr
    intro g hg; exact .inl hg
  | some ad =>
    have hc : ∀ j u, news[j]? = some u → w.cell? (ad.add j) = some u := by
      rcases hnews with rfl | ⟨b, o, h, hc⟩
      · intro j u hj; simp at hj
      · cases h
        intro j u hj
        have := hc j u hj
        by_cases h0 : j = 0
        · subst h0; simpa [Addr.add] using this
        · simpa [Addr.add, h0] using this
    subst hsize
    subst hby
    have hsmall : n + m ≤ 9223372036854775807 := by simp only [maxLen] at h63; omega
    rcases hown.2 with ⟨rfl, rfl⟩ | ⟨g, cap, cur, rfl, hbg, hg, hnc, hcm, hcs, htake⟩
    · by_cases hm : m = 0
      · subst hm
        have hn : news = [] := List.eq_nil_of_length_eq_zero (by simpa using hl)
        subst hn
        have : (Builtin.append_ #[t, t] ty #[.slice none 0 0, .slice (some ad) 0 c]).run P w = .ok (.slice none 0 0) w := by
          simp [Builtin.append_, run_underlying ht, sizeOf, typeInfo, hi, Builtin.lenOf, Builtin.firstCells, loadCells, loadCellsFrom]
        rw [this] at hr
        cases hr
        intro g hg; exact .inl hg
      · have hr' := run_append_nil (P := P) w t ty e i z ht hi hz ad m c news hl hc (by omega) (by omega) (by have hb := hbytes; simp only [Nat.zero_add] at hb; omega)
        rw [hr'] at hr
        cases hr
        intro g hg; right; simpa [Value.ownBlock] using hg.symm
    · by_cases hroom : n + m ≤ cap
      · have hfit : n * i.size + news.length ≤ cur.size := by rw [hl, hcs, ← Nat.add_mul]; exact Nat.mul_le_mul_right _ hroom
        have hr' := run_append_room (P := P) w t ty e i ht hi g n cap cur hg ad m c news hl hc h1 hroom hfit
        rw [hr'] at hr
        cases hr
        intro g' hg'; left; simpa [Value.ownBlock] using hg'
      · have holds : ∀ j u, xs[j]? = some u → w.cell? ((⟨g, 0, none⟩ : Addr).add j) = some u := hown.cells (g := g) rfl
        have hr' := run_append_grow (P := P) w t ty e i z ht hi hz ⟨g, 0, none⟩ n cap xs hown.1 holds ad m c news hl hc (by omega) (by omega) (growslice_fits (by omega) hbytes)
        rw [hr'] at hr
        cases hr
        intro g' hg'; right; simpa [Value.ownBlock] using hg'.symm
theorem wp_append_blk {o : Oper} {a : Act} {K : Act → World → Prop} {Q : Exit → Act → World → Prop} (s x : Operand) (t : TypeId)
    (ho : o.op = .call { callee := .builtin .append, args := #[s, x], argTypes := #[t, t] })
    (base : Nat) (e : TypeId) (i : TypeInfo) (z : Value) (size bytes : Nat) (ht : P.underlying t = some (.slice e)) (hi : P.info? e = some i) (hz : i.zero = some z)
    (hsize : i.size = size) (hby : i.bytes = bytes) (hzs : z.cells.size = size) (hsz : 0 < size)
    (v : Value) (n : Nat) (xs : List Value) (hs : a.eval s = v) (hown : w.ownsRow base e size v n xs)
    (ad : Option Addr) (m c : Nat) (news : List Value) (hx : a.eval x = .slice ad m c) (hl : news.length = m * size) (hnews : CellsAt w ad news) (h1 : ∀ u ∈ news, u.oneCell' = true)
    (h63 : n + m ≤ maxLen) (hbytes : (n + m) * bytes ≤ 140737488355328) (hbase : base ≤ w.heap.size)
    (h : ∀ v' w', w'.ownsRow base e size v' (n + m) (xs ++ news) → w.grownBy w' v.ownBlock → (∀ g, v'.ownBlock = some g → v.ownBlock = some g ∨ g = w.heap.size) → K (a.put o.dst v') w') : Oper.wp P o a w K Q := by
  obtain ⟨v', w', hr, h2, h3, h4⟩ := run_append_blk (P := P) (w := w) base t o.type e i z size bytes ht hi hz hsize hby hzs hsz v n xs hown ad m c news hl hnews h1 h63 hbytes hbase
  unfold Oper.wp
  simp [execOp, ho, resolve, invoke, builtin, hs, hx, hr, Result.andThen]
  exact h v' w' h2 h3 h4
theorem wpList_append_blk {ops : Array Oper} {rest : List Oper} {o : Oper} {a : Act} {Q : Exit → Act → World → Prop} (hgd : o.guard = none) (s x : Operand) (t : TypeId)
    (ho : o.op = .call { callee := .builtin .append, args := #[s, x], argTypes := #[t, t] })
    (base : Nat) (e : TypeId) (i : TypeInfo) (z : Value) (size bytes : Nat) (ht : P.underlying t = some (.slice e)) (hi : P.info? e = some i) (hz : i.zero = some z)
    (hsize : i.size = size) (hby : i.bytes = bytes) (hzs : z.cells.size = size) (hsz : 0 < size)
    (v : Value) (n : Nat) (xs : List Value) (hs : a.eval s = v) (hown : w.ownsRow base e size v n xs)
    (ad : Option Addr) (m c : Nat) (news : List Value) (hx : a.eval x = .slice ad m c) (hl : news.length = m * size) (hnews : CellsAt w ad news) (h1 : ∀ u ∈ news, u.oneCell' = true)
    (h63 : n + m ≤ maxLen) (hbytes : (n + m) * bytes ≤ 140737488355328) (hbase : base ≤ w.heap.size)
    (h : ∀ v' w', w'.ownsRow base e size v' (n + m) (xs ++ news) → w.grownBy w' v.ownBlock → (∀ g, v'.ownBlock = some g → v.ownBlock = some g ∨ g = w.heap.size) → wpList P ops Q rest (a.put o.dst v') w') : wpList P ops Q (o :: rest) a w :=
  wpList_plain hgd fun _ hK => wp_append_blk s x t ho base e i z size bytes ht hi hz hsize hby hzs hsz v n xs hs hown ad m c news hx hl hnews h1 h63 hbytes hbase fun v' w' h2 h3 h4 => hK _ _ (h v' w' h2 h3 h4)
/-- A row in another block is left as it was. -/
theorem row_other {W W' : World} {base : Nat} {e : TypeId} {size n : Nat} {u : Value} {xs : List Value} {row : Option Nat} (h : W.ownsRow base e size u n xs) (hg : W.grownBy W' row) (hne : ∀ g, u.ownBlock = some g → row ≠ some g) : W'.ownsRow base e size u n xs := by
  refine ⟨h.1, ?_⟩
  rcases h.2 with h0 | ⟨g, cap, cur, rfl, hb, hh, h3⟩
  · exact .inl h0
  · refine .inr ⟨g, cap, cur, rfl, hb, ?_, h3⟩
    rw [hg.block g (Array.getElem?_eq_some_iff.1 hh).1 (hne g rfl).symm]
    exact hh
end
/-- Rows that are being made: out has those of F, the row that grows is q; the blocks are apart. -/
def LgI (N : Nat) (W0 : World) (F : List (List Int)) (us : List Value) (out : Value) (q : List Int) (row : Value) (W : World) : Prop :=
  W.ownsRow N 25 1 out F.length us ∧ EachOwn W N us F ∧ W.ownsRow N 3 1 row q.length (ints q) ∧ (∀ u ∈ us, ∀ g, u.ownBlock = some g → row.ownBlock ≠ some g) ∧ Below N W0 W
theorem EachOwn.lt {W : World} {N : Nat} {us : List Value} {F : List (List Int)} (h : EachOwn W N us F) (hl : us.length = F.length) : ∀ u ∈ us, ∀ g, u.ownBlock = some g → g < W.heap.size := by
  intro u hu g hg
  obtain ⟨k, hk, e⟩ := List.getElem_of_mem hu
  exact ((h k u F[k] (by simp [← e, hk]) (by simp [← hl, hk])).lt g hg).2
theorem own_len {W : World} {N e : Nat} {v : Value} {n : Nat} {us : List Value} (h : W.ownsRow N e 1 v n us) : us.length = n := by have := h.1; simpa using this
/-- A row in memory that lies below is as it was behind an append to what is new. -/
theorem row_new {W w1 : World} {o : Obj} {N e s n : Nat} {u : Value} {xs : List Value} (h : W.ownsRow N e s u n xs) (hg : (W.alloc o).grownBy w1 (some W.heap.size)) : w1.ownsRow N e s u n xs :=
  row_other (h.alloc o) hg (fun g hg' e => by cases e; exact absurd (h.lt _ hg').2 (Nat.lt_irrefl _))
theorem LgI.start {N : Nat} {W0 W w1 : World} {F : List (List Int)} {us : List Value} {out row : Value} {q : List Int} {o : Obj} (hN : N ≤ W0.heap.size) (h1 : W.ownsRow N 25 1 out F.length us) (h2 : EachOwn W N us F) (hb : Below N W0 W)
    (hown : w1.ownsRow W.heap.size 3 1 row q.length (ints q)) (hg : (W.alloc o).grownBy w1 (some W.heap.size)) : LgI N W0 F us out q row w1 := by
  have hNW : N ≤ W.heap.size := Nat.le_trans hN hb.size
  refine ⟨row_new h1 hg, fun i u r hu hr => row_new (h2 i u r hu hr) hg, row_base hown hNW, fun u hu g hg1 hg2 => ?_, (hb.alloc hNW o).grown hg (by simp; omega) (fun k e => by cases e; exact hNW)⟩
  have e1 := h2.lt (own_len h1) u hu g hg1
  have e2 := (hown.lt g hg2).1
  omega
theorem LgI.grow {N : Nat} {W0 W w1 : World} {F : List (List Int)} {us : List Value} {out row row' : Value} {q : List Int} {x : Int} {o : Obj} (hN : N ≤ W0.heap.size) (h : LgI N W0 F us out q row W)
    (hown : w1.ownsRow N 3 1 row' (q ++ [x]).length (ints (q ++ [x]))) (hg : (W.alloc o).grownBy w1 row.ownBlock) (hblk : ∀ g, row'.ownBlock = some g → row.ownBlock = some g ∨ g = (W.alloc o).heap.size) : LgI N W0 F us out (q ++ [x]) row' w1 := by
  obtain ⟨h1, h2, h3, h4, hb⟩ := h
  have hNW : N ≤ W.heap.size := Nat.le_trans hN hb.size
  have hmem : ∀ (i : Nat) (u : Value), us[i]? = some u → u ∈ us := fun i u hu => List.mem_of_getElem? hu
  refine ⟨row_kept (h1.alloc o) hg (own_is (h3.alloc o) 25 (by decide)), fun i u r hu hr => row_other ((h2 i u r hu hr).alloc o) hg (h4 u (hmem i u hu)), hown, fun u hu g hg1 hg2 => ?_, (hb.alloc hNW o).grown hg (by simp; omega) (own_ge h3)⟩
  rcases hblk g hg2 with e | e
  · exact h4 u hu g hg1 e
  · have := h2.lt (own_len h1) u hu g hg1
    simp at e; omega
theorem LgI.mid {N : Nat} {W0 W w2 : World} {F : List (List Int)} {us : List Value} {out row : Value} {q : List Int} {o : Obj} (hN : N ≤ W0.heap.size) (h : LgI N W0 F us out q row W) (hg : (W.alloc o).grownBy w2 (some W.heap.size)) : LgI N W0 F us out q row w2 := by
  obtain ⟨h1, h2, h3, h4, hb⟩ := h
  have hNW : N ≤ W.heap.size := Nat.le_trans hN hb.size
  exact ⟨row_new h1 hg, fun i u r hu hr => row_new (h2 i u r hu hr) hg, row_new h3 hg, h4, (hb.alloc hNW o).grown hg (by simp; omega) (fun k e => by cases e; exact hNW)⟩
theorem LgI.put {N : Nat} {W0 W w2 w4 : World} {F : List (List Int)} {us : List Value} {out out' row cv : Value} {q : List Int} {o : Obj} (hN : N ≤ W0.heap.size) (h0 : LgI N W0 F us out q row W) (h : LgI N W0 F us out q row w2) (hc : w2.ownsRow W.heap.size 3 1 cv q.length (ints q))
    (hown : w4.ownsRow N 25 1 out' (F.length + 1) (us ++ [cv])) (hg : (w2.alloc o).grownBy w4 out.ownBlock) : LgI N W0 (F ++ [q]) (us ++ [cv]) out' q row w4 := by
  have hNW : N ≤ W.heap.size := Nat.le_trans hN h0.2.2.2.2.size
  have hlt := fun g hg => (h0.2.2.1.lt g hg).2
  obtain ⟨h1, h2, h3, h4, hb⟩ := h
  have hNW2 : N ≤ w2.heap.size := Nat.le_trans hN hb.size
  have K : ∀ {u : Value} {n : Nat} {xs : List Value}, w2.ownsRow N 3 1 u n xs → w4.ownsRow N 3 1 u n xs := fun hu => row_kept (hu.alloc o) hg (own_is (h1.alloc o) 3 (by decide))
  have hl := own_len h1
  refine ⟨by simpa using hown, fun i u r hu hr => ?_, K h3, fun u hu g hg1 hg2 => ?_, (hb.alloc hNW2 o).grown hg (by simp; omega) (own_ge h1)⟩
  · by_cases hi : i < F.length
    · rw [List.getElem?_append_left (by omega)] at hu
      rw [List.getElem?_append_left hi] at hr
      exact K (h2 i u r hu hr)
    · rw [List.getElem?_append_right (by omega)] at hu
      rw [List.getElem?_append_right (by omega)] at hr
      have e : i - us.length = 0 := by
        have := (List.getElem?_eq_some_iff.1 hu).1
        simp at this; omega
      have e2 : i - F.length = 0 := by omega
      rw [e] at hu
      rw [e2] at hr
      simp at hu hr
      subst hu hr
      exact K (row_base hc hNW)
  · rcases List.mem_append.1 hu with hu | hu
    · exact h4 u hu g hg1 hg2
    · obtain rfl := List.mem_singleton.1 hu
      have e1 := (hc.lt g hg1).1
      have e2 := hlt g hg2
      omega
/-- The rows of one more, once so many of it are told. -/
def lgF (R : List (List Int)) (i : Int) (mn c k : Nat) (r : List Int) (b : Nat) : List (List Int) := furL (R.take k) i mn c ++ (List.range b).map fun j => r ++ List.replicate (mn + j) i
theorem lgF_zero (R : List (List Int)) (i : Int) (mn c k : Nat) (r : List Int) : lgF R i mn c k r 0 = furL (R.take k) i mn c := by simp [lgF]
theorem lgF_full {R : List (List Int)} {i : Int} {mn c k : Nat} {r : List Int} (h : R[k]? = some r) : lgF R i mn c k r c = furL (R.take (k + 1)) i mn c := by
  unfold lgF furL
  rw [List.take_add_one, h, List.flatMap_append]
  simp
theorem lgF_succ (R : List (List Int)) (i : Int) (mn c k : Nat) (r : List Int) (b : Nat) : lgF R i mn c k r (b + 1) = lgF R i mn c k r b ++ [r ++ List.replicate (mn + b) i] := by
  unfold lgF
  rw [List.range_succ, List.map_append, List.append_assoc]
  rfl
theorem lgF_len (R : List (List Int)) (i : Int) (mn c k : Nat) (r : List Int) (b : Nat) (hk : k ≤ R.length) : (lgF R i mn c k r b).length = k * c + b := by
  unfold lgF
  rw [List.length_append, furL_len]
  simp [Nat.min_eq_left hk]
theorem cells_lit (W : World) (cs : List Value) (t : TypeId) : CellsAt (W.alloc (.cells cs.toArray t)) (some ⟨W.heap.size, 0, none⟩) cs := by
  refine .inr ⟨W.heap.size, 0, rfl, fun j u hj => ?_⟩
  have := World.alloc_heap_new W (.cells cs.toArray t)
  simp only [World.cell?, this, Nat.zero_add]
  simpa using hj
theorem lit_none (W : World) : (W.alloc (.cells #[] 3)).ownsRow W.heap.size 3 1 (.slice (some ⟨W.heap.size, 0, none⟩) 0 0) 0 [] := by
  have := World.ownsRow_lit (base := W.heap.size) (e := 3) (size := 1) W #[] 0 (by omega) (by unfold maxLen; omega) rfl
  simpa using this
theorem lcell {W W' : World} {a : Addr} {v : Value} (h : W.cell? a = some v) (hb : Below W.heap.size W W') : W'.cell? a = some v := bcell hb (World.block_lt_of_cell? W _ h) h
set_option maxHeartbeats 4000000 in
theorem rlonger_any (rv sv : Value) (vs : List Value) (R : List (List Int)) (s : Sp) (i : Int) (mn c : Nat) (hmn : s.min = mn) (hc : s.max + 1 = mn + c) (hmn1 : 1 ≤ mn) (h4 : mn + c ≤ 4) (hR : R.length ≤ 1000000) (hRr : ∀ r ∈ R, r.length ≤ 1000) (w : World) (h : RowsV w rv vs R) :
    Calls Tryz.prog 26 #[rv, .int .i64 i, spV s sv] w fun e w' => ∃ v, e = .returned v ∧ OwnRows w' w.heap.size v (furL R i mn c) ∧ Below w.heap.size w w' := by
  obtain ⟨⟨ar, cr, rfl, -⟩, -⟩ := id h
  obtain ⟨m, hm⟩ : ∃ m, R.length = m := ⟨_, rfl⟩
  rw [hm] at h hR ⊢
  have hB0 := kept_new w (.cells #[.bool s.neg, .int .i64 s.kind, .int .i64 s.min, .int .i64 s.max, .bool s.strict, sv] 39)
  have hsb := SpBox.new w s sv
  obtain ⟨i0, hi, hz0, hz1, hz2⟩ := info_parts Tryz.info3
  obtain ⟨j0, hj, hy0, hy1, hy2⟩ := info_parts Tryz.info25
  replace hi := Lib.hid hi
  replace hj := Lib.hid hj
  obtain ⟨mx, hmx⟩ : ∃ mx, s.max = mx := ⟨_, rfl⟩
  rw [hmx] at hc
  replace hmn := Lib.hid hmn
  replace hmx := Lib.hid hmx
  go_enter Tryz.func26, Tryz.ntmps26
  go_wp2
  generalize w.alloc (.cells #[.bool s.neg, .int .i64 s.kind, .int .i64 s.min, .int .i64 s.max, .bool s.strict, sv] 39) = W0 at *
  have hO0 : OwnRows W0 W0.heap.size (.slice none 0 0) (furL (R.take 0) i mn c) := ⟨[], by simpa [furL] using World.ownsRow_nil _ _ _ _, fun i u r hu => by simp at hu⟩
  have hBw := Lib.hid (fun X (hX : Below W0.heap.size W0 X) => (kept_trans hB0 hX : Below w.heap.size w X))
  have hSb := Lib.hid (fun X (hX : Below W0.heap.size W0 X) => (hsb.later hX : SpBox w.heap.size s sv X))
  have hsz := hB0.size
  clear hB0 hsb
  replace h := Lib.hid h
  replace hm := Lib.hid hm
  go_loopw [7, 8] (fun u7 u8 wr => ∃ k : Nat, k ≤ m ∧ u8 = .int .i64 k ∧ Hid (OwnRows wr W0.heap.size u7 (furL (R.take k) i mn c)) ∧ Hid (Below W0.heap.size W0 wr)) (fun _ u8 _ => m - (intOf u8).toNat)
  case atStart => exact ⟨0, Nat.zero_le _, rfl, Lib.hid hO0, Lib.hid (Below.refl _ _)⟩
  case round =>
    clear hO0
    obtain ⟨k, hk, rfl, hO, hB⟩ := hrel
    by_cases hlt : k < m
    · have hlti : (k : Int) < m := by omega
      obtain ⟨r, hr⟩ : ∃ r, R[k]? = some r := ⟨_, List.getElem?_eq_getElem (by have := hm.out; omega)⟩
      have hr1000 := hRr r (List.mem_of_getElem? hr)
      obtain ⟨us0, h1, h2⟩ := hO.out
      have hV := h.out.later (hBw.out _ hB.out)
      obtain ⟨u, hu, mu⟩ := hV.at hr
      obtain ⟨b, o, rfl, q1⟩ := hV.cell hu
      obtain ⟨au, cu, rfl, hcu⟩ := mu
      obtain ⟨l, hl⟩ : ∃ l, r.length = l := ⟨_, rfl⟩
      rw [hl] at q1 hr1000
      have q2 := lcell q1 (kept_new wr (.cells #[] 3))
      have hcu' := hcu.later (kept_new wr (.cells #[] 3))
      have hlit := lit_none wr
      have hst := Lib.hid (fun (w1 : World) (row : Value) (hown : w1.ownsRow wr.heap.size 3 1 row r.length (ints r)) (hg : (wr.alloc (.cells #[] 3)).grownBy w1 (some wr.heap.size)) => (LgI.start (Nat.le_refl _) h1 h2 hB.out hown hg))
      have hr' := Lib.hid hr
      clear hV hu hcu h1 h2 hO hr hlt
      go_wp2_with (at_builtin; refine wpList_append_blk rfl (.tmp 17) (.tmp 21) 25 rfl wr.heap.size 3 i0 (.int .i64 0) 1 8 Tryz.underlying25 hi.out hz0 hz1 hz2 rfl (by decide) _ 0 [] rfl hlit au l cu (ints r) rfl (by simp [hl]) hcu' (ints_one r) (by unfold maxLen; omega) (by omega) (by simp) ?_; intro row w1 hown hgrow hblk; rw [Nat.zero_add, List.nil_append, ← hl] at hown; replace hst := hst.out _ _ hown hgrow; clear hown hgrow hblk)
      have hlg : LgI W0.heap.size W0 (lgF R i mn c k r 0) us0 u7 r row w1 := by rw [lgF_zero]; exact hst
      replace hlg := Lib.hid hlg
      clear hst q1 q2 hcu' hlit
      go_loopw [7, 9, 10] (fun u7 u9 u10 wr => ∃ (n : Nat) (us : List Value), n ≤ mx ∧ u10 = .int .i64 ((n : Int) + 1) ∧ Hid (LgI W0.heap.size W0 (lgF R i mn c k r (n + 1 - mn)) us u7 (r ++ List.replicate n i) u9 wr)) (fun _ _ u10 _ => mn + c - (intOf u10).toNat)
      case atStart => exact ⟨0, us0, by omega, rfl, by rw [show 0 + 1 - mn = 0 by omega]; simpa using hlg⟩
      case round =>
        clear hlg
        obtain ⟨n, us, hn, rfl, hI⟩ := hrel
        have hBn := hI.out.2.2.2.2
        obtain ⟨-, -, z2, z3, -, -⟩ := (hSb.out _ hBn).cells
        rw [hmn.out] at z2
        rw [hmx.out] at z3
        by_cases hnm : (n : Int) + 1 ≤ mx
        · have hFl : (lgF R i mn c k r (n + 1 - mn)).length ≤ 5000000 := by
            rw [lgF_len _ _ _ _ _ _ _ (by have := hm.out; omega)]
            have : k * c ≤ 1000000 * 4 := Nat.mul_le_mul (by omega) (by omega)
            omega
          obtain ⟨Fl, hFe⟩ : ∃ Fl, (lgF R i mn c k r (n + 1 - mn)).length = Fl := ⟨_, rfl⟩
          rw [hFe] at hFl
          have h3 := hI.out.2.2.1
          have hgr := Lib.hid (fun (w1 : World) (row' : Value) hown hg hblk => @LgI.grow _ _ _ w1 _ _ _ _ row' _ i (.cells #[.int .i64 i] 3) (Nat.le_refl _) hI.out hown hg hblk)
          obtain ⟨q, hq⟩ : ∃ q, r ++ List.replicate n i = q := ⟨_, rfl⟩
          have hql : q.length ≤ 1010 := by rw [← hq]; simp; omega
          have hq2 : r ++ List.replicate (n + 1) i = q ++ [i] := by rw [← hq, List.append_assoc, ← List.replicate_succ']
          rw [hq] at h3 hgr
          obtain ⟨lq, hlq⟩ : ∃ lq, q.length = lq := ⟨_, rfl⟩
          rw [hlq] at h3 hql
          have hlt := cells_lit wr [.int .i64 i] 3
          have h3' := h3.alloc (.cells #[.int .i64 i] 3)
          have hszw : W0.heap.size ≤ (wr.alloc (.cells #[.int .i64 i] 3)).heap.size := by have := hBn.size; simp; omega
          clear z2 h3 hI
          obtain ⟨q', hq'⟩ : ∃ q', q ++ [i] = q' := ⟨_, rfl⟩
          have hints : ints q' = ints q ++ [.int .i64 i] := by rw [← hq']; simp [ints]
          have hlq' : q'.length = lq + 1 := by rw [← hq']; simp [hlq]
          rw [hq'] at hgr hq2
          replace hq := Lib.hid hq
          replace hq2 := Lib.hid hq2
          replace hq' := Lib.hid hq'
          replace hlq := Lib.hid hlq
          replace hFe := Lib.hid hFe
          replace hints := Lib.hid hints
          replace hBn := Lib.hid hBn
          by_cases hge : (mn : Int) ≤ (n : Int) + 1
          · have hFs : lgF R i mn c k r (n + 1 + 1 - mn) = lgF R i mn c k r (n + 1 - mn) ++ [q'] := by
              rw [show n + 1 + 1 - mn = (n + 1 - mn) + 1 by omega, lgF_succ, show mn + (n + 1 - mn) = n + 1 by omega, hq2.out]
            replace hFs := Lib.hid hFs
            go_wp2_with (first
              | (at_builtin; refine wpList_append_blk rfl (.tmp 29) (.tmp 31) 25 rfl W0.heap.size 3 i0 (.int .i64 0) 1 8 Tryz.underlying25 hi.out hz0 hz1 hz2 rfl (by decide) u9 lq (ints q) rfl h3' (some ⟨wr.heap.size, 0, none⟩) 1 1 [.int .i64 i] rfl rfl hlt (by simp [Value.oneCell']) (by unfold maxLen; omega) (by omega) hszw ?_; intro row2 w2 hown hgrow hblk; have hI2 := hgr.out w2 row2 (by rw [hints.out, hlq']; exact hown) hgrow hblk; obtain ⟨a2, c2, rfl, hc2⟩ := cells_of_row hI2.2.2.1; rw [hlq'] at hI2 ⊢; obtain ⟨-, -, z2, -, -, -⟩ := (hSb.out _ hI2.2.2.2.2).cells; rw [hmn.out] at z2; have hlit := lit_none w2; have hc2' := hc2.later (kept_new w2 (.cells #[] 3)); replace hI2 := Lib.hid hI2; clear hown hgrow hblk hc2 hlt h3')
              | (at_builtin; refine wpList_append_blk rfl (.tmp 38) (.tmp 39) 25 rfl w2.heap.size 3 i0 (.int .i64 0) 1 8 Tryz.underlying25 hi.out hz0 hz1 hz2 rfl (by decide) _ 0 [] rfl hlit a2 (lq + 1) c2 (ints q') rfl (by simp [hlq']) hc2' (ints_one q') (by unfold maxLen; omega) (by omega) (by simp) ?_; intro cv w3 hownc hgrow hblk; rw [Nat.zero_add, List.nil_append] at hownc; have hI3 := LgI.mid (Nat.le_refl _) hI2.out hgrow; obtain ⟨a4, c4, rfl, -⟩ := cells_of_row hownc; have hh1 := hI3.1.alloc (.cells #[.slice a4 (lq + 1) c4] 25); rw [hFe.out] at hh1; have hcl := cells_lit w3 [.slice a4 (lq + 1) c4] 25; have hszw3 : W0.heap.size ≤ (w3.alloc (.cells #[.slice a4 (lq + 1) c4] 25)).heap.size := (by have := hI3.2.2.2.2.size; simp; omega); replace hI3 := Lib.hid hI3; replace hownc := Lib.hid hownc; clear hgrow hblk z2 hlit hc2')
              | (at_builtin; refine wpList_append_blk rfl (.tmp 37) (.tmp 41) 29 rfl W0.heap.size 25 j0 (.slice none 0 0) 1 24 Tryz.underlying29 hj.out hy0 hy1 hy2 rfl (by decide) u7 Fl us rfl hh1 (some ⟨w3.heap.size, 0, none⟩) 1 1 [.slice a4 (lq + 1) c4] rfl rfl hcl (by simp [Value.oneCell']) (by unfold maxLen; omega) (by omega) hszw3 ?_; intro out2 w4 hown4 hgrow4 hblk4; have hI4 := LgI.put (Nat.le_refl _) hI2.out hI3.out (by rw [hlq']; exact hownc.out) (by rw [hFe.out]; exact hown4) hgrow4; replace hI4 := Lib.hid hI4; clear hown4 hgrow4 hblk4 hcl hh1))
            go_roundw
            case rel => exact ⟨n + 1, _, hnm, by go_num, by rw [hFs.out, hq2.out]; exact hI4⟩
            case measure => simp [intOf]; omega
          · have hFs : lgF R i mn c k r (n + 1 + 1 - mn) = lgF R i mn c k r (n + 1 - mn) := by
              rw [show n + 1 + 1 - mn = 0 by omega, show n + 1 - mn = 0 by omega]
            replace hFs := Lib.hid hFs
            go_wp2_with (at_builtin; refine wpList_append_blk rfl (.tmp 29) (.tmp 31) 25 rfl W0.heap.size 3 i0 (.int .i64 0) 1 8 Tryz.underlying25 hi.out hz0 hz1 hz2 rfl (by decide) u9 lq (ints q) rfl h3' (some ⟨wr.heap.size, 0, none⟩) 1 1 [.int .i64 i] rfl rfl hlt (by simp [Value.oneCell']) (by unfold maxLen; omega) (by omega) hszw ?_; intro row2 w2 hown hgrow hblk; have hI2 := hgr.out w2 row2 (by rw [hints.out, hlq']; exact hown) hgrow hblk; obtain ⟨-, -, z2, -, -, -⟩ := (hSb.out _ hI2.2.2.2.2).cells; rw [hmn.out] at z2; replace hI2 := Lib.hid hI2; clear hown hgrow hblk hlt h3')
            go_roundw
            case rel => exact ⟨n + 1, _, hnm, by go_num, by rw [hFs.out, hq2.out]; exact hI2⟩
            case measure => simp [intOf]; omega
        · have hnx : (n : Int) = mx := by omega
          have hnc : n + 1 - mn = c := by omega
          have hout := hI.out.1
          have heach := hI.out.2.1
          rw [hnc, lgF_full hr'.out] at hout heach
          have hO' : OwnRows wr W0.heap.size u7 (furL (R.take (k + 1)) i mn c) := ⟨us, hout, heach⟩
          replace hO' := Lib.hid hO'
          replace hBn := Lib.hid hBn
          clear hI hout heach z2
          go_wp2_with fail
          go_roundw
          case rel => exact ⟨k + 1, by omega, by go_num, hO', hBn⟩
          case measure => simp [intOf]; omega
    · obtain rfl : k = m := by omega
      have hO' := hO.out
      rw [List.take_of_length_le (by rw [hm.out]; exact Nat.le_refl _)] at hO'
      have hBx := hBw.out _ hB.out
      replace hO' := Lib.hid (hO'.base hsz)
      replace hBx := Lib.hid hBx
      clear hO hB
      go_wp2_with fail
      go_ret
      exact ⟨_, rfl, hO'.out, hBx.out⟩
end Go.Proofs.YtfkdgaeiiejjlaaGreat.Tree
/- The document's own Rows. -/
namespace Go.Proofs.YtfkdgaeiiejjlaaGreat.Tree
open Go.ChangeShapes Go.WideShapes Go.ChangeAt Go.RowKit
set_option linter.unusedVariables false
set_option linter.unusedSimpArgs false
set_option maxRecDepth 100000
attribute [local go_sem] Oper.semAt_some
theorem take_snoc {ss : List Sp} {i : Nat} {s : Sp} (h : ss[i]? = some s) : ss.take (i + 1) = ss.take i ++ [s] := by
  rw [List.take_add_one, h]; rfl
theorem rowsP_take {ss : List Sp} {i : Nat} {s : Sp} (h : ss[i]? = some s) : rowsP (ss.take (i + 1)) = if s.neg = true then rowsP (ss.take i) else stepR (rowsP (ss.take i)) (i, s) := by
  have hi := (List.getElem?_eq_some_iff.1 h).1
  rw [take_snoc h]
  unfold rowsP
  rw [posS_append, List.length_take, Nat.min_eq_left (by omega), Nat.zero_add]
  split
  · rename_i hn
    have : posS [s] i = [] := by simp [posS, hn]
    rw [this, List.append_nil]
  · rename_i hn
    have : posS [s] i = [(i, s)] := by simp [posS, hn]
    rw [this, List.foldl_append]
    rfl
theorem GoodP.take_bd {ss : List Sp} (h : GoodP ss) (i : Nat) : (rowsP (ss.take i)).length ≤ 81 ∧ ∀ r ∈ rowsP (ss.take i), r.length ≤ 12 := by
  have h4 : (posS (ss.take i) 0).length ≤ 4 := by
    have h1 := h.few
    have h2 : posS ss 0 = posS (ss.take i) 0 ++ posS (ss.drop i) (0 + (ss.take i).length) := by rw [← posS_append, List.take_append_drop]
    rw [h2, List.length_append] at h1
    omega
  have hP : ∀ x ∈ posS (ss.take i) 0, 1 ≤ x.2.min ∧ x.2.min ≤ x.2.max ∧ x.2.max ≤ 3 := fun x hx => by
    obtain ⟨-, h2, h3⟩ := posS_mem hx
    exact h.pos _ (List.mem_of_mem_take (List.mem_of_getElem? h2)) h3
  obtain ⟨h1, h2⟩ := rows_bd (posS (ss.take i) 0) hP [[]] 1 0 (by simp) (by simp)
  have h3 : 3 ^ (posS (ss.take i) 0).length ≤ 3 ^ 4 := Nat.pow_le_pow_right (by omega) h4
  unfold rowsP
  exact ⟨by omega, fun r hr => by have := h2 r hr; omega⟩
theorem may_R {v : Value} {L : List (Sp × Value)} (win : Int) (hg : great (L.map (·.1)) = false) (w : World) (h : SpsL w v L) :
    Calls Tryz.prog 25 #[ptV v win] w fun e w' => e = .returned (.bool (mayB (L.map (·.1)) win)) ∧ Below w.heap.size w w' := by
  obtain ⟨hS, h40, h20⟩ := Small.of_great hg
  obtain ⟨a, c, rfl⟩ := h.lit rfl
  have hl : L.length ≤ 1000 := Nat.le_trans (by simpa using h40) (by omega)
  exact refMay_L a _ c win L hS.short w rfl hl (fun x hx => h20 x.1 (List.mem_map_of_mem hx)) h
set_option maxHeartbeats 2000000 in
theorem refRows_R {v : Value} {L : List (Sp × Value)} (win : Int) (hg : great (L.map (·.1)) = false) (w : World) (h : SpsL w v L) :
    Calls Tryz.prog 8 #[ptV v win] w fun e w' => ∃ u, e = .returned u ∧ OwnRows w' w.heap.size u (rowsR (L.map (·.1)) win) ∧ Below w.heap.size w w' := by
  have hb := kept_new w (.cells #[v, .int .i64 win] 24)
  have hp : PK w v win (w.alloc (.cells #[v, .int .i64 win] 24)) := ⟨PtBox.new w _ _, hb⟩
  have c0 := hp.1.c0
  have c1 := hp.1.c1
  have hM := may_R win hg _ (h.later hb)
  obtain ⟨n, hn⟩ : ∃ n, L.length = n := ⟨_, rfl⟩
  obtain ⟨a, c, rfl⟩ := h.lit hn
  obtain ⟨m, hmm⟩ : ∃ m, mayB (L.map (·.1)) win = m := ⟨_, rfl⟩
  unfold rowsR
  rw [hmm] at hM ⊢
  cases m with
  | false =>
    replace hM := Lib.hid hM
    replace hb := Lib.hid hb
    clear hp h hg hn hmm
    go_enter Tryz.func8, Tryz.ntmps8
    go_wp2_with ((with_reducible refine hM.out.mono ?_); rintro e w2 ⟨rfl, hb2⟩)
    go_ret
    exact ⟨_, rfl, ⟨[], World.ownsRow_nil _ _ _ _, fun i u r hu => by simp at hu⟩, kept_trans hb.out hb2⟩
  | true =>
    have hG := may_good hmm
    obtain ⟨ss, hss⟩ : ∃ ss, L.map (·.1) = ss := ⟨_, rfl⟩
    have hat := Lib.hid (fun (i : Nat) (s : Sp) (sv : Value) (hx : L[i]? = some (s, sv)) => show (L.map (·.1))[i]? = some s by simp [hx])
    rw [hss] at hG hat ⊢
    have hsl : ss.length = n := by rw [← hss]; simpa using hn
    have hn41 : n ≤ 41 := by have h1 := (Small.of_great hg).2.1; simp at h1; omega
    replace hM := Lib.hid hM
    replace h := Lib.hid h
    replace hn := Lib.hid hn
    replace hsl := Lib.hid hsl
    clear hb hg hmm hss
    go_enter Tryz.func8, Tryz.ntmps8
    go_wp2_with ((with_reducible refine hM.out.mono ?_); rintro e w2 ⟨rfl, hb2⟩)
    replace hp := hp.later hb2
    have hk := kept_new w2 (.cells #[.slice none 0 0] 25)
    have hP0 := Lib.hid (hp.later hk)
    have hO0 : OwnRows (w2.alloc (.cells #[.slice none 0 0] 25)) w.heap.size (.slice (some ⟨w2.heap.size, 0, none⟩) 1 1) (rowsP (ss.take 0)) := ⟨[.slice none 0 0], World.ownsRow_lit (base := w.heap.size) (e := 25) (size := 1) w2 #[.slice none 0 0] 1 hp.2.size (by unfold maxLen; omega) rfl, fun i u r hu hr => by
      have hi := (List.getElem?_eq_some_iff.1 hu).1
      obtain rfl : i = 0 := by simp at hi; exact hi
      simp at hu; subst hu
      rw [show rowsP (ss.take 0) = [[]] from rfl] at hr
      have : r = [] := by simpa using hr.symm
      subst this
      simpa using World.ownsRow_nil _ _ _ _⟩
    replace hO0 := Lib.hid hO0
    clear hp hk c0 c1 hM hb2
    go_loopw [3, 4] (fun u3 u4 wr => ∃ i : Nat, i ≤ n ∧ u4 = .int .i64 i ∧ Hid (OwnRows wr w.heap.size u3 (rowsP (ss.take i))) ∧ Hid (PK w (.slice a n c) win wr)) (fun _ u4 _ => n - (intOf u4).toNat)
    case atStart => exact ⟨0, Nat.zero_le _, rfl, hO0, hP0⟩
    case round =>
      clear hO0 hP0
      obtain ⟨i, hi, rfl, hO, hP⟩ := hrel
      have c0 := hP.out.1.c0
      have c1 := hP.out.1.c1
      by_cases hlt : i < n
      · have hlti : (i : Int) < n := by omega
        obtain ⟨⟨s, sv⟩, hx⟩ : ∃ x, L[i]? = some x := ⟨_, List.getElem?_eq_getElem (by have := hn.out; omega)⟩
        obtain ⟨b, o, rfl, z0, z1, z2, z3, z4, z5, hv⟩ := (h.out.later hP.out.2).step hn.out hx
        obtain ⟨ml, hml⟩ : ∃ ml, s.cs.length = ml := ⟨_, rfl⟩
        obtain ⟨asv, csv, rfl⟩ := hv.lit hml
        have hxs := hat.out i s _ hx
        have hT := rowsP_take hxs
        have hpos := hG.pos s (List.mem_of_getElem? hxs)
        have hbd := hG.take_bd i
        clear hv hml hx
        obtain ⟨au, nu, cu, rfl⟩ := hO.out.lit
        obtain ⟨neg, hneg⟩ : ∃ g, s.neg = g := ⟨_, rfl⟩
        rw [hneg] at z0 hT hpos
        cases neg with
        | true =>
          rw [if_pos rfl] at hT
          replace hT := Lib.hid hT
          clear hneg hpos hbd
          go_wp2_with fail
          go_roundw
          case rel => exact ⟨i + 1, hlt, by go_num, by rw [hT.out]; exact hO, hP⟩
          case measure => simp [intOf]; omega
        | false =>
          rw [if_neg (by simp)] at hT
          obtain ⟨p1, p2, p3⟩ := hpos rfl
          obtain ⟨vs, hV⟩ := hO.out.at
          have hL := rlonger_any (.slice au nu cu) (.slice asv ml csv) vs (rowsP (ss.take i)) s i s.min.toNat (s.max + 1 - s.min).toNat (by omega) (by omega) (by omega) (by omega) (by omega) (fun r hr => by have := hbd.2 r hr; omega) wr hV
          rw [show furL (rowsP (ss.take i)) i s.min.toNat (s.max + 1 - s.min).toNat = rowsP (ss.take (i + 1)) from hT.symm] at hL
          simp only [spV, hneg] at hL
          replace hL := Lib.hid hL
          replace hT := Lib.hid hT
          replace hneg := Lib.hid hneg
          clear hpos hbd hV hO
          go_wp2_with ((with_reducible refine hL.out.mono ?_); rintro e w3 ⟨u, rfl, ho3, hb3⟩)
          go_roundw
          case rel => exact ⟨i + 1, hlt, by go_num, Lib.hid (ho3.base hP.out.2.size), Lib.hid (hP.out.later hb3)⟩
          case measure => simp [intOf]; omega
      · obtain rfl : i = n := by omega
        have hO' := hO.out
        rw [List.take_of_length_le (by rw [hsl.out]; exact Nat.le_refl _)] at hO'
        replace hO' := Lib.hid hO'
        clear hO hG
        go_wp2_with fail
        go_ret
        exact ⟨_, rfl, by simpa using hO'.out, hP.out.2⟩
end Go.Proofs.YtfkdgaeiiejjlaaGreat.Tree
/- Pure facts of UnrollGuards: what a row leaves out, place by place; how often each step's number was told. -/
namespace Go.Proofs.YtfkdgaeiiejjlaaGreat.Tree
open Go.ChangeShapes Go.WideShapes Go.ChangeAt Go.RowKit
set_option linter.unusedVariables false
set_option linter.unusedSimpArgs false
set_option maxRecDepth 100000
/-- A row from a step on: between two numbers of it stand negative steps alone. -/
def Cov (ss : List Sp) : Nat → List Int → Prop
  | f, [] => ∀ (j : Nat) (s : Sp), f ≤ j → ss[j]? = some s → s.neg = true
  | f, y :: q => ∃ (i : Nat) (s : Sp), y = i ∧ ss[i]? = some s ∧ s.neg = false ∧ (i + 1 = f ∨ f ≤ i ∧ ∀ (j : Nat) (t : Sp), f ≤ j → j < i → ss[j]? = some t → t.neg = true) ∧ Cov ss (i + 1) q
theorem cov_back {ss : List Sp} {i : Nat} {s : Sp} (hs : ss[i]? = some s) (hn : s.neg = true) {q : List Int} (h : Cov ss (i + 1) q) : Cov ss i q := by
  cases q with
  | nil =>
    intro j t hj ht
    by_cases e : j = i
    · subst e; rw [hs] at ht; cases ht; exact hn
    · exact h j t (by omega) ht
  | cons y q =>
    obtain ⟨k, t, e, ht, hp, hk, hq⟩ := h
    refine ⟨k, t, e, ht, hp, .inr ?_, hq⟩
    rcases hk with hk | ⟨hk, hb⟩
    · obtain rfl : k = i := by omega
      rw [hs] at ht; cases ht
      rw [hn] at hp; cases hp
    · refine ⟨by omega, fun j u hj hjk hu => ?_⟩
      by_cases e : j = i
      · subst e; rw [hs] at hu; cases hu; exact hn
      · exact hb j u (by omega) hjk hu
theorem cov_rep {ss : List Sp} {i : Nat} {s : Sp} (hs : ss[i]? = some s) (hn : s.neg = false) {q : List Int} (h : Cov ss (i + 1) q) (m : Nat) : Cov ss (i + 1) (List.replicate m (i : Int) ++ q) := by
  induction m with
  | zero => simpa using h
  | succ m ih => exact ⟨i, s, rfl, hs, hn, .inl rfl, ih⟩
theorem cov_of (ss : List Sp) : ∀ (r : List Sp) (i : Nat) (q : List Int), ss.drop i = r → (∀ s ∈ r, s.neg = false → 1 ≤ s.min) → restL r i q = true → Cov ss i q := by
  intro r
  induction r with
  | nil =>
    intro i q hd _ h
    obtain rfl : q = [] := by simpa [restL] using h
    intro j s hj hs
    have h1 := (List.getElem?_eq_some_iff.1 hs).1
    have h2 := congrArg List.length hd
    simp at h2
    omega
  | cons s r ih =>
    intro i q hd hm h
    have hs : ss[i]? = some s := by
      have := congrArg (fun l => l[0]?) hd
      simpa [List.getElem?_drop] using this
    have hd' : ss.drop (i + 1) = r := by rw [← List.drop_drop, hd]; rfl
    rw [restL, Bool.and_eq_true] at h
    have hc := ih (i + 1) _ hd' (fun t ht => hm t (List.mem_cons_of_mem _ ht)) h.2
    cases hn : s.neg with
    | true =>
      have h0 : leadN q i = 0 := by have := h.1; simp [stepOk, hn] at this; exact_mod_cast this
      rw [h0, List.drop_zero] at hc
      exact cov_back hs hn hc
    | false =>
      have h1 : 1 ≤ leadN q i := by
        have h2 := h.1
        have h3 := hm s List.mem_cons_self hn
        simp [stepOk, hn] at h2
        omega
      rw [leadN_split q i]
      obtain ⟨m, hm⟩ : ∃ m, leadN q i = m + 1 := ⟨leadN q i - 1, by omega⟩
      rw [hm] at hc ⊢
      rw [List.replicate_succ, List.cons_append]
      exact ⟨i, s, rfl, hs, hn, .inr ⟨Nat.le_refl _, fun j t h1 h2 => by omega⟩, cov_rep hs hn hc m⟩
theorem GoodP.cov {ss : List Sp} (h : GoodP ss) {q : List Int} (hq : q ∈ rowsP ss) : Cov ss 0 q := by
  refine cov_of ss ss 0 q rfl (fun s hs hn => (h.pos s hs hn).1) ?_
  rw [restL_is ss 0 q h.rising]
  exact (h.mem q).1 hq
/-- From which step on nothing was told yet, behind k places of a row. -/
def frL (q : List Int) (k : Nat) : Nat := if k = 0 then 0 else (q[k - 1]?.getD 0).toNat + 1
theorem cov_drop {ss : List Sp} {q : List Int} (h : Cov ss 0 q) : ∀ k, k ≤ q.length → Cov ss (frL q k) (q.drop k) := by
  intro k
  induction k with
  | zero => intro _; simpa [frL] using h
  | succ k ih =>
    intro hk
    have h1 := ih (by omega)
    obtain ⟨y, hy⟩ : ∃ y, q[k]? = some y := ⟨_, List.getElem?_eq_getElem (by omega)⟩
    rw [List.drop_eq_getElem_cons (by omega)] at h1
    obtain ⟨i, s, e, -, -, -, h2⟩ := h1
    have : frL q (k + 1) = i + 1 := by
      unfold frL
      rw [if_neg (by omega), Nat.add_sub_cancel, List.getElem?_eq_getElem (by omega), e]
      simp
    rw [this]; exact h2
/-- How often each number was told, once all below f were gone through. -/
def seenL (ss : List Sp) (f : Nat) : List Int := (List.range ss.length).map fun j => if j < f ∧ (stepA ss j).neg = true then 1 else 0
theorem seenL_len (ss : List Sp) (f : Nat) : (seenL ss f).length = ss.length := by simp [seenL]
theorem seenL_at (ss : List Sp) (f : Nat) {j : Nat} (hj : j < ss.length) : (seenL ss f)[j]? = some (if j < f ∧ (stepA ss j).neg = true then 1 else 0) := by
  simp [seenL, hj]
theorem seenL_zero (ss : List Sp) : seenL ss 0 = List.replicate ss.length 0 := by
  refine List.ext_getElem (by simp [seenL]) fun i h1 h2 => by simp [seenL]
theorem seenL_pos {ss : List Sp} {f : Nat} (h : (stepA ss f).neg = false) : seenL ss (f + 1) = seenL ss f := by
  unfold seenL
  refine List.map_congr_left fun j _ => ?_
  by_cases e : j = f
  · subst e; simp [h]
  · have : (j < f + 1) ↔ (j < f) := by omega
    simp only [this]
theorem seenL_neg {ss : List Sp} {f : Nat} (hf : f < ss.length) (h : (stepA ss f).neg = true) : seenL ss (f + 1) = (seenL ss f).set f 1 := by
  refine List.ext_getElem (by simp [seenL]) fun j h1 h2 => ?_
  rw [List.getElem_set]
  have hj : j < ss.length := by simpa [seenL] using h1
  simp only [seenL, List.getElem_map, List.getElem_range]
  by_cases e : f = j
  · subst e; simp [h]
  · have : (j < f + 1) ↔ (j < f) := by omega
    simp only [this, if_neg e]
theorem seenL_next {ss : List Sp} {f : Nat} (hf : f < ss.length) : (seenL ss f)[f]? = some 0 := by
  rw [seenL_at ss f hf]; simp
/-- What the walk over one place of a row leans on: f the first step that was not told, i the place's step. -/
theorem place_at {ss : List Sp} {win : Int} (hm : mayB ss win = true) {q : List Int} (hq : q ∈ rowsP ss) {k : Nat} {y : Int} (hk : q[k]? = some y) :
    ∃ i d : Nat, y = i ∧ i < ss.length ∧ guardsL ss win q k = fromL (frL q k : Nat) d ∧ (∀ x, x < d → (stepA ss (frL q k + x)).neg = true ∧ frL q k + x < i) ∧ seenL ss (frL q k + d) = seenL ss (frL q (k + 1)) ∧
      (1 ≤ k → q[k - 1]? = some ((frL q k : Int) - 1)) ∧ (k = 0 → d = 0) := by
  have hG := may_good hm
  have hkl := (List.getElem?_eq_some_iff.1 hk).1
  have hc := cov_drop (hG.cov hq) k (by omega)
  rw [List.drop_eq_getElem_cons hkl] at hc
  obtain ⟨i, s, e, hs, hn, hi, -⟩ := hc
  have ey : y = i := by rw [List.getElem?_eq_getElem hkl] at hk; cases hk; exact e
  have hil := (List.getElem?_eq_some_iff.1 hs).1
  have hA : stepA ss i = s := stepA_of hs
  have hf1 : frL q (k + 1) = i + 1 := by
    unfold frL
    rw [if_neg (by omega), Nat.add_sub_cancel, hk, ey]
    simp
  have hsp : seenL ss (i + 1) = seenL ss i := seenL_pos (by rw [hA]; exact hn)
  have hisP : isP ss win q = true := by
    unfold isP
    rw [hm, (hG.mem q).1 hq]; rfl
  have hprev : 1 ≤ k → ∃ p : Nat, q[k - 1]? = some (p : Int) ∧ frL q k = p + 1 := by
    intro h1
    have hc' := cov_drop (hG.cov hq) (k - 1) (by omega)
    rw [List.drop_eq_getElem_cons (by omega)] at hc'
    obtain ⟨p, t, e', -, -, -, -⟩ := hc'
    refine ⟨p, by rw [List.getElem?_eq_getElem (by omega), e'], ?_⟩
    unfold frL
    rw [if_neg (by omega), List.getElem?_eq_getElem (by omega), e']
    simp
  by_cases h0 : k = 0
  · subst h0
    have hf0 : frL q 0 = 0 := rfl
    rw [hf0] at hi ⊢
    have hi0 : i = 0 := by
      rcases hi with hi | ⟨-, hb⟩
      · omega
      · rcases Nat.eq_zero_or_pos i with h | h
        · exact h
        · obtain ⟨t, ht⟩ : ∃ t, ss[0]? = some t := ⟨_, List.getElem?_eq_getElem (by omega)⟩
          have h1 := hb 0 t (Nat.le_refl _) h ht
          have h2 := hG.first t ht
          rw [h2] at h1; cases h1
    subst hi0
    refine ⟨0, 0, ey, hil, ?_, fun x hx => absurd hx (Nat.not_lt_zero _), ?_, fun h => absurd h (by omega), fun _ => rfl⟩
    · simp [guardsL, fromL]
    · rw [hf1]; exact hsp.symm
  · obtain ⟨p, hp, hfp⟩ := hprev (by omega)
    refine ⟨i, i - frL q k, ey, hil, ?_, fun x hx => ?_, ?_, fun _ => by rw [hp, hfp]; simp, fun h => absurd h h0⟩
    · unfold guardsL
      rw [if_pos ⟨by omega, by omega, hisP⟩]
      have e1 : ((k : Int) - 1).toNat = k - 1 := by omega
      rw [e1, hp, Int.toNat_natCast, hk]
      simp only [Option.getD_some]
      unfold betL
      rw [hfp, ey]
      congr 1
      omega
    · rcases hi with hi | ⟨-, hb⟩
      · omega
      · have hlt : frL q k + x < i := by omega
        obtain ⟨t, ht⟩ : ∃ t, ss[frL q k + x]? = some t := ⟨_, List.getElem?_eq_getElem (by omega)⟩
        exact ⟨by rw [stepA_of ht]; exact hb _ t (by omega) hlt ht, hlt⟩
    · rw [hf1, hsp]
      rcases hi with hi | ⟨hle, -⟩
      · rw [show i - frL q k = 0 by omega, ← hi, Nat.add_zero]; exact hsp
      · rw [show frL q k + (i - frL q k) = i by omega]
/-- What stands behind the last place. -/
theorem after_at {ss : List Sp} {win : Int} (hm : mayB ss win = true) {q : List Int} (hq : q ∈ rowsP ss) :
    ∃ d : Nat, afterL ss win = fromL (frL q q.length : Nat) d ∧ frL q q.length + d = ss.length ∧ (∀ x, x < d → (stepA ss (frL q q.length + x)).neg = true) ∧ 1 ≤ q.length ∧ q[q.length - 1]? = some ((frL q q.length : Int) - 1) := by
  have hG := may_good hm
  have hl := (hG.row_len hq).1
  have hc0 := cov_drop (hG.cov hq) (q.length - 1) (by omega)
  rw [List.drop_eq_getElem_cons (by omega)] at hc0
  obtain ⟨p, t, e', ht, hn, -, -⟩ := hc0
  have hp : q[q.length - 1]? = some (p : Int) := by rw [List.getElem?_eq_getElem (by omega), e']
  have hfp : frL q q.length = p + 1 := by
    unfold frL
    rw [if_neg (by omega), hp]
    simp
  have hpl := (List.getElem?_eq_some_iff.1 ht).1
  have hc := cov_drop (hG.cov hq) q.length (Nat.le_refl _)
  rw [List.drop_length] at hc
  have hneg : ∀ j, p + 1 ≤ j → j < ss.length → (stepA ss j).neg = true := fun j h1 h2 => by
    obtain ⟨s, hs⟩ : ∃ s, ss[j]? = some s := ⟨_, List.getElem?_eq_getElem h2⟩
    rw [stepA_of hs]
    exact hc j s (by rw [hfp]; exact h1) hs
  have hlast : lastU ss ss.length = p := by
    rw [lastU_down (k := p + 1) (by omega) hneg]
    exact lastU_at (by rw [stepA_of ht]; exact hn)
  refine ⟨ss.length - (p + 1), ?_, by rw [hfp]; omega, fun x hx => hneg _ (by omega) (by omega), hl, by rw [hp, hfp]; simp⟩
  unfold afterL
  rw [if_pos hm]
  unfold tailP
  rw [hlast]
  unfold betL
  rw [hfp]
  congr 1 <;> omega
/-- At the end. -/
theorem seenL_end (ss : List Sp) {j : Nat} (hj : j < ss.length) : (seenL ss ss.length)[j]? = some (if (stepA ss j).neg = true then 1 else 0) := by
  rw [seenL_at ss _ hj]; simp [hj]
end Go.Proofs.YtfkdgaeiiejjlaaGreat.Tree
/- Append to an empty slice of the law's own, and of one number more: what is kept. Drawn regions with loads taken first, state by state. -/
namespace Go.Proofs.YtfkdgaeiiejjlaaGreat.Tree
open Go.ChangeShapes Go.WideShapes Go.ChangeAt Go.RowKit
set_option linter.unusedVariables false
set_option linter.unusedSimpArgs false
set_option maxRecDepth 100000
attribute [local go_sem] Oper.semAt_some
section
variable {P : Program} {w : World} {e : TypeId} {size : Nat}
theorem run_append_fresh (base : Nat) (t ty e : TypeId) (i : TypeInfo) (z : Value) (size bytes : Nat) (ht : P.underlying t = some (.slice e)) (hi : P.info? e = some i) (hz : i.zero = some z)
    (hsize : i.size = size) (hby : i.bytes = bytes) (hzs : z.cells.size = size) (hsz : 0 < size)
    (p : Nat) (hp : w.heap[p]? = some (.cells #[] e (0, 0)))
    (a : Option Addr) (m c : Nat) (news : List Value) (hl : news.length = m * size) (hnews : CellsAt w a news) (h1 : ∀ u ∈ news, u.oneCell' = true)
    (h63 : m ≤ maxLen) (hbytes : m * bytes ≤ 140737488355328) (hbase : base ≤ w.heap.size) :
    ∃ v' w', (Builtin.append_ #[t, t] ty #[.slice (some ⟨p, 0, none⟩) 0 0, .slice a m c]).run P w = .ok v' w' ∧ Below w.heap.size w w' ∧ ((m = 0 ∧ v' = .slice (some ⟨p, 0, none⟩) 0 0 ∧ w'.heap[p]? = some (.cells #[] e (0, 0))) ∨ w'.ownsRow base e size v' m news) := by
  have hown : w.ownsRow 0 e size (.slice (some ⟨p, 0, none⟩) 0 0) 0 [] := ⟨by simp, .inr ⟨p, 0, #[], rfl, Nat.zero_le _, hp, Nat.le_refl _, Nat.zero_le _, by simp, by simp⟩⟩
  cases a with
  | none =>
    have hm : m = 0 := by
      rcases hnews with rfl | ⟨b, o, h, _⟩
      · have hl0 : m * size = 0 := hl.symm
        rcases Nat.mul_eq_zero.1 hl0 with h | h
        · exact h
        · omega
      · cases h
    subst hm
    exact ⟨_, w, run_append_noslice 0 t ty e i size ht hi _ 0 [] hown c, Below.refl _ _, .inl ⟨rfl, rfl, hp⟩⟩
  | some ad =>
    have hc : ∀ j u, news[j]? = some u → w.cell? (ad.add j) = some u := by
      rcases hnews with rfl | ⟨b, o, h, hc⟩
      · intro j u hj; simp at hj
      · cases h
        intro j u hj
        have := hc j u hj
        by_cases h0 : j = 0
        · subst h0; simpa [Addr.add] using this
        · simpa [Addr.add, h0] using this
    subst hsize
    subst hby
    by_cases hm : m = 0
    · subst hm
      have hn : news = [] := List.eq_nil_of_length_eq_zero (by simpa using hl)
      subst hn
      have hr := run_append_room (P := P) w t ty e i ht hi p 0 0 #[] hp ad 0 c [] (by simp) (by simp) (by simp) (Nat.le_refl _) (by simp)
      have e0 : (List.take (0 * i.size) (#[] : Array Value).toList ++ ([] : List Value) ++ List.drop (0 * i.size + ([] : List Value).length) (#[] : Array Value).toList).toArray = #[] := by simp
      rw [e0] at hr
      refine ⟨_, _, hr, ?_, .inl ⟨rfl, rfl, ?_⟩⟩
      · refine ⟨rfl, rfl, rfl, by simp, fun k hk => ?_⟩
        by_cases e : k = p
        · subst e
          rw [hp]
          exact setRow_heap w k #[] _ _ _ hp
        · exact setRow_other w p k _ e
      · exact setRow_heap w p #[] _ _ _ hp
    · have hsmall : m ≤ 9223372036854775807 := by simp only [maxLen] at h63; omega
      have hr := run_append_grow (P := P) w t ty e i z ht hi hz ⟨p, 0, none⟩ 0 0 [] (by simp) (by simp) ad m c news hl hc (by omega) (by omega) (growslice_fits (by omega) (by simpa using hbytes))
      refine ⟨_, _, hr, ⟨rfl, rfl, rfl, by simp, fun k hk => heap_alloc_old w.drew _ hk⟩, .inr ?_⟩
      have hge := grownCap_ge w (0 + m) 0 e
      have hcm : grownCap w (0 + m) 0 e ≤ maxLen := grownCap_le_maxLen w (0 + m) 0 e (by simpa using h63)
      refine ⟨hl, .inr ⟨w.heap.size, _, _, by simp, hbase, heap_alloc_new w.drew _, by simpa using hge, hcm, ?_, ?_⟩⟩
      · simp only [Array.size_append, List.size_toArray, size_zeroCells, hzs, hl, List.length_nil, Nat.zero_add, ← Nat.add_mul]
        congr 1
        simp only [Nat.zero_add] at hge
        omega
      · simp only [Array.toList_append, List.nil_append]
        rw [← hl]
        exact List.take_left
end
/-- A row that stood when memory ended at B. -/
def OldR (N B : Nat) (X : World) (v : Value) (xs : List Int) : Prop := X.ownsRow 0 3 1 v xs.length (ints xs) ∧ (∀ g, v.ownBlock = some g → g < B) ∧ B ≤ X.heap.size ∧ N ≤ B
theorem OldR.later {N B : Nat} {X Y : World} {v : Value} {xs : List Int} (h : OldR N B X v xs) (hb : Below X.heap.size X Y) : OldR N B Y v xs := ⟨row_later h.1 hb, h.2.1, Nat.le_trans h.2.2.1 hb.size, h.2.2.2⟩
theorem OldR.nms {N B : Nat} {X : World} {v : Value} {xs : List Int} (h : OldR N B X v xs) : NmsAt X v xs := nms_own h.1
theorem OldR.of {N : Nat} {X Y : World} {v : Value} {xs : List Int} (h : Y.ownsRow X.heap.size 3 1 v xs.length (ints xs)) (hN : N ≤ Y.heap.size) : OldR N Y.heap.size Y v xs := ⟨row_base h (Nat.zero_le _), fun g hg => (h.lt g hg).2, Nat.le_refl _, hN⟩
/-- A row that lies behind B, or an empty one without room. -/
def NewR (B : Nat) (X : World) (v : Value) (xs : List Int) : Prop := (∃ p, v = .slice (some ⟨p, 0, none⟩) 0 0 ∧ xs = [] ∧ X.heap[p]? = some (.cells #[] 3 (0, 0))) ∨ X.ownsRow B 3 1 v xs.length (ints xs)
theorem NewR.later {B : Nat} {X Y : World} {v : Value} {xs : List Int} (h : NewR B X v xs) (hb : Below X.heap.size X Y) : NewR B Y v xs := by
  rcases h with ⟨p, h1, h2, h3⟩ | h
  · exact .inl ⟨p, h1, h2, (hb.block _ (Array.getElem?_eq_some_iff.1 h3).1).trans h3⟩
  · exact .inr (row_later h hb)
theorem app_first {o : Oper} {a : Act} {w : World} {K : Act → World → Prop} {Q : Exit → Act → World → Prop} (s x : Operand)
    (ho : o.op = .call { callee := .builtin .append, args := #[s, x], argTypes := #[25, 25] })
    (p : Nat) (hp : w.heap[p]? = some (.cells #[] 3 (0, 0))) (hs : a.eval s = .slice (some ⟨p, 0, none⟩) 0 0)
    (u : Value) (xs : List Int) (hx : a.eval x = u) (hu : NmsAt w u xs) (hl : xs.length ≤ 1000) (B : Nat) (hB : B ≤ w.heap.size)
    (h : ∀ v' w', NewR B w' v' xs → Below w.heap.size w w' → K (a.put o.dst v') w') : Oper.wp Tryz.prog o a w K Q := by
  obtain ⟨i0, hi, hz0, hz1, hz2⟩ := info_parts Tryz.info3
  obtain ⟨ad, c, rfl, hc⟩ := hu
  obtain ⟨v', w', hr, h2, h3⟩ := run_append_fresh (P := Tryz.prog) (w := w) B 25 o.type 3 i0 (.int .i64 0) 1 8 Tryz.underlying25 hi hz0 hz1 hz2 rfl (by decide) p hp ad xs.length c (ints xs) (by simp) hc (ints_one xs) (by unfold maxLen; omega) (by omega) hB
  unfold Oper.wp
  simp [execOp, ho, resolve, invoke, builtin, hs, hx, hr, Result.andThen]
  refine h v' w' ?_ h2
  rcases h3 with ⟨h4, h5, h6⟩ | h4
  · exact .inl ⟨p, h5, List.eq_nil_of_length_eq_zero h4, h6⟩
  · exact .inr h4
theorem app_one {o : Oper} {a : Act} {w : World} {K : Act → World → Prop} {Q : Exit → Act → World → Prop} (s x : Operand)
    (ho : o.op = .call { callee := .builtin .append, args := #[s, x], argTypes := #[25, 25] })
    (B : Nat) (hB : B ≤ w.heap.size) (v : Value) (xs : List Int) (hs : a.eval s = v) (hv : NewR B w v xs) (hl : xs.length ≤ 1000)
    (p : Nat) (z : Int) (hx : a.eval x = .slice (some ⟨p, 0, none⟩) 1 1) (hlit : CellsAt w (some ⟨p, 0, none⟩) [.int .i64 z])
    (h : ∀ v' w', NmsAt w' v' (xs ++ [z]) → (∀ N W0, N ≤ B → Below N W0 w → Below N W0 w') → (∀ N u ys, OldR N B w u ys → OldR N B w' u ys) → K (a.put o.dst v') w') : Oper.wp Tryz.prog o a w K Q := by
  obtain ⟨i0, hi, hz0, hz1, hz2⟩ := info_parts Tryz.info3
  rcases hv with ⟨q, rfl, rfl, hq⟩ | hv
  · obtain ⟨v', w', hr, h2, h3⟩ := run_append_fresh (P := Tryz.prog) (w := w) B 25 o.type 3 i0 (.int .i64 0) 1 8 Tryz.underlying25 hi hz0 hz1 hz2 rfl (by decide) q hq (some ⟨p, 0, none⟩) 1 1 [.int .i64 z] (by simp) hlit (by simp [Value.oneCell']) (by unfold maxLen; omega) (by omega) hB
    unfold Oper.wp
    simp [execOp, ho, resolve, invoke, builtin, hs, hx, hr, Result.andThen]
    have h4 : w'.ownsRow B 3 1 v' 1 [.int .i64 z] := by
      rcases h3 with ⟨h4, -⟩ | h4
      · omega
      · exact h4
    exact h v' w' (nms_own (xs := [z]) h4) (fun N W0 hN hb => hb.trans (h2.mono (Nat.le_trans hN hB))) (fun N u ys hu => hu.later h2)
  · obtain ⟨v', w', hr, h2, h3⟩ := run_append_cells (P := Tryz.prog) (w := w) B 25 o.type 3 i0 (.int .i64 0) 1 8 Tryz.underlying25 hi hz0 hz1 hz2 rfl (by decide) v xs.length (ints xs) hv (some ⟨p, 0, none⟩) 1 1 [.int .i64 z] (by simp) hlit (by simp [Value.oneCell']) (by unfold maxLen; omega) (by omega) hB
    unfold Oper.wp
    simp [execOp, ho, resolve, invoke, builtin, hs, hx, hr, Result.andThen]
    have e : ints xs ++ [.int .i64 z] = ints (xs ++ [z]) := by simp [ints]
    rw [e] at h2
    refine h v' w' (nms_own h2) (fun N W0 hN hb => hb.grown h3 (Nat.le_trans hN hB) (fun k hk => Nat.le_trans hN (own_ge hv k hk))) (fun N u ys hu => ⟨hu.1.kept h3 ?_, hu.2.1, Nat.le_trans hu.2.2.1 h3.size, hu.2.2.2⟩)
    cases hub : u.ownBlock with
    | none => exact .inl rfl
    | some g =>
      refine .inr fun e => ?_
      have h4 := own_ge hv g e.symm
      have h5 := hu.2.1 g hub
      omega
/-- The first k have come up, and these. -/
def fsH (n k : Nat) (ex : List Nat) : Array Bool := ((List.range n).map fun i => decide (i < k) || ex.contains i).toArray
theorem held_op {P : Program} {ops : Array Oper} {Q : Exit → Act → World → Prop} {i : Nat} {o : Oper} {K : Act → World → Prop} {a : Act} {w : World} (h0 : ops[i]? = some o) (hw : Region.wanted o (yielded ops a.tmps) = true)
    (h : ∀ K' : Act → World → Prop, (∀ a w, K a w → K' a w) → Oper.wp P o a w K' Q) : wpOp P ops Q i K a w := by
  unfold wpOp
  rw [h0]
  simp only [hw, if_true]
  exact .inl (h K fun _ _ h => h)
end Go.Proofs.YtfkdgaeiiejjlaaGreat.Tree
/- The document's own Many, Is, Guards, After. -/
namespace Go.Proofs.YtfkdgaeiiejjlaaGreat.Tree
open Go.ChangeShapes Go.WideShapes Go.ChangeAt Go.RowKit
set_option linter.unusedVariables false
set_option linter.unusedSimpArgs false
set_option maxRecDepth 100000
attribute [local go_sem] Oper.semAt_some
theorem refMany_R {v : Value} {L : List (Sp × Value)} (win : Int) (hg : great (L.map (·.1)) = false) (w : World) (h : SpsL w v L) :
    Calls Tryz.prog 10 #[ptV v win] w fun e w' => e = .returned (.int .i64 ((rowsR (L.map (·.1)) win).length : Int)) ∧ Below w.heap.size w w' := by
  have hb := Lib.hid (kept_new w (.cells #[v, .int .i64 win] 24))
  have hR := Lib.hid (refRows_R win hg _ (h.later hb.out))
  have c0 := (PtBox.new w v win).c0
  have c1 := (PtBox.new w v win).c1
  obtain ⟨n, hn⟩ : ∃ n, L.length = n := ⟨_, rfl⟩
  obtain ⟨a, c, rfl⟩ := h.lit hn
  obtain ⟨R, hRR⟩ : ∃ R, rowsR (L.map (·.1)) win = R := ⟨_, rfl⟩
  rw [hRR] at hR ⊢
  clear h hRR hg hn
  go_enter Tryz.func10, Tryz.ntmps10
  go_wp2_with ((with_reducible refine hR.out.mono ?_); rintro e w2 ⟨u, rfl, h1, hb2⟩; obtain ⟨vs, h1, -⟩ := h1; obtain ⟨a4, c4, rfl, -⟩ := cells_of_row h1)
  go_ret
  exact ⟨rfl, kept_trans hb.out hb2⟩
theorem rows_get3 {W : World} {base : Nat} {v : Value} {R : List (List Int)} (h : OwnRows W base v R) {k : Nat} {r : List Int} (hr : R[k]? = some r) :
    ∃ b c u, v = .slice (some ⟨b, 0, none⟩) R.length c ∧ W.cell? ⟨b, k, none⟩ = some u ∧ W.ownsRow base 3 1 u r.length (ints r) := by
  obtain ⟨vs, h1, h2⟩ := h
  have hl : vs.length = R.length := by have := h1.1; simpa using this
  have hk := (List.getElem?_eq_some_iff.1 hr).1
  obtain ⟨u, hu⟩ : ∃ u, vs[k]? = some u := ⟨_, List.getElem?_eq_getElem (by omega)⟩
  rcases h1.2 with ⟨e, h0⟩ | ⟨g, cap, cur, e, hb, hg, hn, hm, hs, ht⟩
  · omega
  · refine ⟨g, cap, u, e, ?_, h2 k u r hu hr⟩
    rw [← ht] at hu
    have hkk : k < R.length * 1 := by omega
    rw [List.getElem?_take_of_lt hkk] at hu
    simp only [World.cell?, hg]
    simpa using hu
theorem rows_len {W : World} {base : Nat} {a : Option Addr} {m c : Nat} {R : List (List Int)} (h : OwnRows W base (.slice a m c) R) : m = R.length := by
  obtain ⟨vs, k1, -⟩ := h
  rcases k1.2 with ⟨e, h0⟩ | ⟨g, cap, cur, e, _⟩
  · injection e with e1 e2 e3; omega
  · injection e with e1 e2 e3
set_option maxHeartbeats 1000000 in
theorem refIs_R {v : Value} {L : List (Sp × Value)} (win : Int) (hg : great (L.map (·.1)) = false) (rv : Value) (row : List Int) (hrow : row.length ≤ 1000000) (w : World) (h : SpsL w v L) (hr : NmsAt w rv row) :
    Calls Tryz.prog 12 #[ptV v win, rv] w fun e w' => e = .returned (.bool (decide (row ∈ rowsR (L.map (·.1)) win))) ∧ Below w.heap.size w w' := by
  have hb := Lib.hid (kept_new w (.cells #[v, .int .i64 win] 24))
  have hR := Lib.hid (refRows_R win hg _ (h.later hb.out))
  have c0 := (PtBox.new w v win).c0
  have c1 := (PtBox.new w v win).c1
  obtain ⟨n, hn⟩ : ∃ n, L.length = n := ⟨_, rfl⟩
  obtain ⟨a, c, rfl⟩ := h.lit hn
  have hbd := rowsR_bd (L.map (·.1)) win
  obtain ⟨R, hRR⟩ : ∃ R, rowsR (L.map (·.1)) win = R := ⟨_, rfl⟩
  rw [hRR] at hR hbd ⊢
  obtain ⟨ar, cr, rfl, -⟩ := id hr
  obtain ⟨lr, hlr⟩ : ∃ lr, row.length = lr := ⟨_, rfl⟩
  rw [hlr] at hrow hr ⊢
  replace hbd := Lib.hid hbd
  replace hr := Lib.hid hr
  replace hlr := Lib.hid hlr
  obtain ⟨D, hD⟩ : ∃ D, decide (row ∈ R) = D := ⟨_, rfl⟩
  rw [hD]
  replace hD := Lib.hid hD
  clear h hRR hg hn
  go_enter Tryz.func12, Tryz.ntmps12
  go_wp2_with ((with_reducible refine hR.out.mono ?_); rintro e w2 ⟨u, rfl, ho, hb2⟩)
  obtain ⟨aa, m, ca, rfl⟩ := ho.lit
  have hm := rows_len ho
  have hm81 : m ≤ 81 := by have := hbd.out.1; omega
  have hB := Lib.hid (kept_trans hb.out hb2)
  replace ho := Lib.hid ho
  replace hm := Lib.hid hm
  clear c0 c1 hR hb2
  go_loopw [6] (fun u6 wr => ∃ i : Nat, i ≤ m ∧ u6 = .int .i64 i ∧ Hid (row ∉ R.take i) ∧ Hid (Below w2.heap.size w2 wr)) (fun u6 _ => m - (intOf u6).toNat)
  case atStart => exact ⟨0, Nat.zero_le _, rfl, Lib.hid (by simp), Lib.hid (Below.refl _ _)⟩
  case round =>
    obtain ⟨i, hi, rfl, hno, hBi⟩ := hrel
    by_cases hlt : i < m
    · have hlti : (i : Int) < m := by omega
      obtain ⟨r, hri⟩ : ∃ r, R[i]? = some r := ⟨_, List.getElem?_eq_getElem (by have := hm.out; omega)⟩
      have hr12 := hbd.out.2 r (List.mem_of_getElem? hri)
      obtain ⟨ba, ca', ui, e', q1, o1⟩ := rows_get3 (ho.out.later hBi.out) hri
      injection e' with e1 e2 e3
      subst e1 e3
      have hI := Lib.hid (ints2_V (by unfold maxLen; omega) (by rw [hlr.out]; unfold maxLen; omega) wr (nms_own o1) (hr.out.later (kept_trans hB.out hBi.out)))
      obtain ⟨au, cu, rfl, -⟩ := cells_of_row o1
      obtain ⟨E, hE⟩ : ∃ E, decide (r = row) = E := ⟨_, rfl⟩
      rw [hE] at hI
      replace hri := Lib.hid hri
      clear o1 e2
      cases E with
      | true =>
        obtain rfl : D = true := by
          rw [← hD.out]
          have e : r = row := by simpa using hE
          rw [decide_eq_true_eq, ← e]
          exact List.mem_of_getElem? hri.out
        clear hE
        go_wp2_with ((with_reducible refine hI.out.mono ?_); rintro e w3 ⟨rfl, hb3⟩)
        go_ret
        exact ⟨rfl, kept_trans (kept_trans hB.out hBi.out) hb3⟩
      | false =>
        have hne : r ≠ row := by simpa using hE
        have hno2 : row ∉ R.take (i + 1) := by
          rw [List.take_add_one, hri.out]
          intro hx
          rcases List.mem_append.1 hx with hx | hx
          · exact hno.out hx
          · simp at hx; exact hne hx.symm
        replace hno2 := Lib.hid hno2
        clear hE hne
        go_wp2_with ((with_reducible refine hI.out.mono ?_); rintro e w3 ⟨rfl, hb3⟩)
        go_roundw
        case rel => exact ⟨i + 1, hlt, by go_num, hno2, Lib.hid (kept_trans hBi.out hb3)⟩
        case measure => simp [intOf]; omega
    · obtain rfl : i = m := by omega
      obtain rfl : D = false := by
        rw [← hD.out, decide_eq_false_iff_not]
        have := hno.out
        rw [List.take_of_length_le (by rw [hm.out]; exact Nat.le_refl _)] at this
        exact this
      have hlti : ¬ (i : Int) < i := by omega
      go_wp2_with fail
      go_ret
      exact ⟨rfl, kept_trans hB.out hBi.out⟩
/-- Negative steps from one on. -/
theorem nots_R {v : Value} {L : List (Sp × Value)} (win : Int) (f d : Nat) (t : Int) (ht : t = f + d ∨ d = 0 ∧ t ≤ f) (hd : f + d ≤ L.length) (hL : L.length ≤ 41) (hneg : ∀ x, x < d → (stepA (L.map (·.1)) (f + x)).neg = true) (ht0 : -1000 ≤ t) (hf : f ≤ 1000) (w : World) (h : SpsL w v L) :
    Calls Tryz.prog 29 #[ptV v win, .int .i64 f, .int .i64 t] w fun e w' => ∃ u, e = .returned u ∧ w'.ownsRow w.heap.size 3 1 u d (ints (fromL f d)) ∧ Below w.heap.size w w' := by
  have hb := kept_new w (.cells #[v, .int .i64 win] 24)
  have hp : PK w v win (w.alloc (.cells #[v, .int .i64 win] 24)) := ⟨PtBox.new w _ _, hb⟩
  obtain ⟨n, hn⟩ : ∃ n, L.length = n := ⟨_, rfl⟩
  obtain ⟨a, c, rfl⟩ := h.lit hn
  rw [hn] at hd hL
  have hat : Hid (∀ i, i < n → ∃ s sv, L[i]? = some (s, sv) ∧ stepA (L.map (·.1)) i = s) := fun i hi => by
    obtain ⟨⟨s, sv⟩, hx⟩ : ∃ x, L[i]? = some x := ⟨_, List.getElem?_eq_getElem (by omega)⟩
    exact ⟨s, sv, hx, stepA_of (by simp [hx])⟩
  have hstep := Lib.hid (fun (X : World) (hX : PK w (.slice a n c) win X) (i : Nat) (s : Sp) (sv : Value) (hx : L[i]? = some (s, sv)) => (h.later hX.2).step hn hx)
  obtain ⟨i0, hi, hz0, hz1, hz2⟩ := info_parts Tryz.info3
  replace hi := Lib.hid hi
  replace hneg := Lib.hid hneg
  replace hp := Lib.hid hp
  clear h hb hn
  go_enter Tryz.func29, Tryz.ntmps29
  go_wp2_with fail
  generalize w.alloc (.cells #[.slice a n c, .int .i64 win] 24) = W0 at *
  go_loopw [7, 8] (fun u7 u8 wr => ∃ x : Nat, x ≤ d ∧ u8 = .int .i64 ((f : Int) + x) ∧ Hid (wr.ownsRow W0.heap.size 3 1 u7 x (ints (fromL f x))) ∧ Hid (Below W0.heap.size W0 wr)) (fun _ u8 _ => f + d - (intOf u8).toNat)
  case atStart => exact ⟨0, Nat.zero_le _, by simp, Lib.hid (by simpa [fromL] using World.ownsRow_nil _ _ _ _), Lib.hid (Below.refl _ _)⟩
  case round =>
    obtain ⟨x, hx, rfl, ho, hB⟩ := hrel
    have hPw := hp.out.later hB.out
    have c0 := hPw.1.c0
    by_cases hlt : x < d
    · have hlti : (f : Int) + x < t := by omega
      obtain ⟨s, sv, hxs, hA⟩ := hat.out (f + x) (by omega)
      obtain ⟨b, o, rfl, z0, -, -, -, -, -, -⟩ := hstep.out _ hPw (f + x) s sv hxs
      have hng := hneg.out x hlt
      rw [hA] at hng
      rw [hng] at z0
      obtain ⟨z, hz⟩ : ∃ z, f + x = z := ⟨_, rfl⟩
      have hzi : (f : Int) + x = (z : Int) := by omega
      have hzn : z < n := by omega
      rw [hz] at z0
      have hnx : ints (fromL (f : Int) x) ++ [.int .i64 (z : Int)] = ints (fromL f (x + 1)) := by rw [fromL_succ, hzi]; simp [ints]
      have how := ho.out.alloc (.cells #[.int .i64 z] 3)
      have hcl := cells_lit wr [.int .i64 z] 3
      have hsz : W0.heap.size ≤ (wr.alloc (.cells #[.int .i64 z] 3)).heap.size := by have := hB.out.size; simp; omega
      have hxl : x ≤ 1000 := by omega
      replace hnx := Lib.hid hnx
      replace hz := Lib.hid hz
      clear hng hA hxs ho
      rw [hzi]
      go_wp2_with (at_builtin; refine wpList_append_cells rfl (.tmp 21) (.tmp 23) 25 rfl W0.heap.size 3 i0 (.int .i64 0) 1 8 Tryz.underlying25 hi.out hz0 hz1 hz2 rfl (by decide) u7 x (ints (fromL f x)) rfl how (some ⟨wr.heap.size, 0, none⟩) 1 1 [.int .i64 z] rfl rfl hcl (by simp [Value.oneCell']) (by unfold maxLen; omega) (by omega) hsz ?_; intro v2 w2 hown hgrow)
      rw [hnx.out] at hown
      have hB2 := (hB.out.alloc hB.out.size (.cells #[.int .i64 z] 3)).grown hgrow hsz (own_ge how)
      go_roundw
      case rel => exact ⟨x + 1, hlt, by have := hz.out; go_num, Lib.hid hown, Lib.hid hB2⟩
      case measure => have := hz.out; simp [intOf]; omega
    · obtain rfl : x = d := by omega
      have hlti : ¬ (f : Int) + x < t := by omega
      have hs := hp.out.2.size
      clear hstep hat
      go_wp2_with fail
      go_ret
      exact ⟨_, rfl, row_base ho.out hs, hPw.2⟩
theorem rowsR_is2 (ss : List Sp) (win : Int) (q : List Int) : decide (q ∈ rowsR ss win) = isP ss win q := by
  unfold rowsR isP
  cases hm : mayB ss win with
  | false => simp
  | true =>
    rw [if_pos rfl, Bool.true_and]
    have := (may_good hm).mem q
    cases h : isL (posS ss 0) q <;> simp_all
set_option maxHeartbeats 1000000 in
theorem refAfter_R {v : Value} {L : List (Sp × Value)} (win : Int) (hg : great (L.map (·.1)) = false) (w : World) (h : SpsL w v L) :
    Calls Tryz.prog 17 #[ptV v win] w fun e w' => ∃ u, e = .returned u ∧ w'.ownsRow w.heap.size 3 1 u (afterL (L.map (·.1)) win).length (ints (afterL (L.map (·.1)) win)) ∧ Below w.heap.size w w' := by
  have hb := kept_new w (.cells #[v, .int .i64 win] 24)
  have hp : PK w v win (w.alloc (.cells #[v, .int .i64 win] 24)) := ⟨PtBox.new w _ _, hb⟩
  have hM := Lib.hid (may_R win hg _ (h.later hb))
  obtain ⟨n, hn⟩ : ∃ n, L.length = n := ⟨_, rfl⟩
  obtain ⟨a, c, rfl⟩ := h.lit hn
  have c0 := hp.1.c0
  have c1 := hp.1.c1
  have hn41 : L.length ≤ 41 := (Small.of_great hg).1.len
  unfold afterL
  obtain ⟨M, hMM⟩ : ∃ M, mayB (L.map (·.1)) win = M := ⟨_, rfl⟩
  rw [hMM] at hM ⊢
  cases M with
  | false =>
    clear h hg hn hn41 hMM
    go_enter Tryz.func17, Tryz.ntmps17
    go_wp2_with ((with_reducible refine hM.out.mono ?_); rintro e w2 ⟨rfl, hb2⟩)
    go_ret
    exact ⟨_, rfl, World.ownsRow_nil _ _ _ _, kept_trans hb hb2⟩
  | true =>
    have hsp := lastU_spec (L.map (·.1)) (L.map (·.1)).length
    have hbd := lastU_bd (L.map (·.1)) (L.map (·.1)).length
    have hlm : (L.map (·.1)).length = n := by simpa using hn
    obtain ⟨A, hA⟩ : ∃ A, lastU (L.map (·.1)) (L.map (·.1)).length = A := ⟨_, rfl⟩
    rw [hA] at hsp hbd
    rw [hlm] at hsp hbd
    have hT : tailP (L.map (·.1)) = (n : Int) - 1 - A := by unfold tailP; rw [hA, hlm]
    obtain ⟨f, hf⟩ : ∃ f : Nat, A + 1 = (f : Int) := ⟨(A + 1).toNat, by omega⟩
    obtain ⟨d, hd⟩ : ∃ d, f + d = n := ⟨n - f, by omega⟩
    have hbet : betL ((L.map (·.1)).length - 1 - tailP (L.map (·.1))) (L.map (·.1)).length = fromL f d := by
      unfold betL
      rw [hT, hlm]
      have e1 : (n : Int) - 1 - ((n : Int) - 1 - A) + 1 = (f : Int) := by omega
      rw [e1]
      congr 1
      omega
    rw [if_pos rfl, hbet, fromL_len]
    have hTl := Lib.hid (fun X (hX : PK w (.slice a n c) win X) => refTail_L a n c win L (by omega) X hn (h.later hX.2))
    rw [hT] at hTl
    have hNo := Lib.hid (fun X (hX : PK w (.slice a n c) win X) => nots_R (v := .slice a n c) win f d n (.inl (by omega)) (by omega) hn41 (fun x hx => hsp.2 (f + x) (by omega) (by omega)) (by omega) (by omega) X (h.later hX.2))
    have hn41' : n ≤ 41 := by omega
    obtain ⟨T, hTT⟩ : ∃ T, (n : Int) - 1 - A = T := ⟨_, rfl⟩
    rw [hTT] at hTl
    have hw1 : IntKind.wrap .i64 ((n : Int) - T) = (f : Int) := by rw [IntKind.wrap_i64]; omega
    replace hw1 := Lib.hid hw1
    clear h hg hn hn41 hMM hsp hbd hlm hA hT hbet hTT hf
    go_enter Tryz.func17, Tryz.ntmps17
    go_upto_region 3 with ((with_reducible refine hM.out.mono ?_); rintro e w2 ⟨rfl, hb2⟩)
    have hp2 : PK w (.slice a n c) win w2.drew := (hp.later hb2).later (below_drew w2)
    clear c0 c1 hM hp hb
    obtain ⟨W0, hW0⟩ : ∃ W0, w2.drew = W0 := ⟨_, rfl⟩
    rw [hW0] at hp2
    have hs0 := hp2.2.size
    have hKX : Hid (∀ X, Below W0.heap.size W0 X → PK w (.slice a n c) win X) := fun X hX => hp2.later hX
    have hB16 := Lib.hid hp2.2
    have hF : Hid (∀ X, Below W0.heap.size W0 X → X.cell? ⟨w.heap.size, 0, none⟩ = some (.slice a n c) ∧ X.cell? ⟨w.heap.size, 1, none⟩ = some (.int .i64 win)) := fun X hX => ⟨(hKX.out X hX).1.c0, (hKX.out X hX).1.c1⟩
    have E5 := Lib.hid (fun X (hX : Below W0.heap.size W0 X) => hTl.out X (hKX.out X hX))
    have E10 : Hid (∀ X, Below W0.heap.size W0 X → Calls Tryz.prog 29 #[.agg #[.slice a n c, .int .i64 win], .int .i64 f, .int .i64 n] X fun e Y => ∃ u, e = .returned u ∧ Y.ownsRow W0.heap.size 3 1 u d (ints (fromL f d)) ∧ Below X.heap.size X Y) := fun X hX => by
      refine (hNo.out X (hKX.out X hX)).mono ?_
      rintro e Y ⟨u, h1, h2, h3⟩
      exact ⟨u, h1, row_base h2 hX.size, h3⟩
    have hmx : Tryz.prog.follows .mixedOrders = true := by kernel_rfl
    have hW' := Below.refl W0.heap.size W0
    have hw := hw1.out
    have hwq : wrap64 ((n : Int) - T) = (f : Int) := by have := hw1.out; rw [IntKind.wrap_i64] at this; unfold wrap64; exact this
    clear hTl hNo hp2 hKX
    refine wp_region_noPanic ?_
    refine wp_region_held (S := fun Z => Below W0.heap.size W0 Z) hmx ?_
    try dsimp only [List.append]
    change wpAnyH _ _ _ _ _ _ _ _ w2.drew
    rw [hW0]
    generalize hops : (List.toArray _ : Array Oper) = ops
    generalize hQQ : NoPanic _ = QQ
    have hQp : ∀ (d : Option Tmp) (v : Value) (c : _) (a : Act) (w : World), QQ (.panic c) (a.put d v) w → QQ (.panic c) a w := by rw [← hQQ]; intro d v c a w h; exact h
    have hNS : Region.noSelect ops = true := by rw [← hops]; kernel_rfl
    obtain ⟨oo, hop0⟩ : ∃ o, ops[0]? = some o := ⟨_, by rw [← hops]; rfl⟩
    have hv := hop0
    rw [← hops] at hv
    simp only [List.getElem?_toArray, List.getElem?_cons_succ, List.getElem?_cons_zero, Option.some.injEq] at hv
    subst hv
    obtain ⟨oo, hop1⟩ : ∃ o, ops[1]? = some o := ⟨_, by rw [← hops]; rfl⟩
    have hv := hop1
    rw [← hops] at hv
    simp only [List.getElem?_toArray, List.getElem?_cons_succ, List.getElem?_cons_zero, Option.some.injEq] at hv
    subst hv
    obtain ⟨oo, hop2⟩ : ∃ o, ops[2]? = some o := ⟨_, by rw [← hops]; rfl⟩
    have hv := hop2
    rw [← hops] at hv
    simp only [List.getElem?_toArray, List.getElem?_cons_succ, List.getElem?_cons_zero, Option.some.injEq] at hv
    subst hv
    obtain ⟨oo, hop3⟩ : ∃ o, ops[3]? = some o := ⟨_, by rw [← hops]; rfl⟩
    have hv := hop3
    rw [← hops] at hv
    simp only [List.getElem?_toArray, List.getElem?_cons_succ, List.getElem?_cons_zero, Option.some.injEq] at hv
    subst hv
    obtain ⟨oo, hop4⟩ : ∃ o, ops[4]? = some o := ⟨_, by rw [← hops]; rfl⟩
    have hv := hop4
    rw [← hops] at hv
    simp only [List.getElem?_toArray, List.getElem?_cons_succ, List.getElem?_cons_zero, Option.some.injEq] at hv
    subst hv
    obtain ⟨oo, hop5⟩ : ∃ o, ops[5]? = some o := ⟨_, by rw [← hops]; rfl⟩
    have hv := hop5
    rw [← hops] at hv
    simp only [List.getElem?_toArray, List.getElem?_cons_succ, List.getElem?_cons_zero, Option.some.injEq] at hv
    subst hv
    obtain ⟨oo, hop6⟩ : ∃ o, ops[6]? = some o := ⟨_, by rw [← hops]; rfl⟩
    have hv := hop6
    rw [← hops] at hv
    simp only [List.getElem?_toArray, List.getElem?_cons_succ, List.getElem?_cons_zero, Option.some.injEq] at hv
    subst hv
    obtain ⟨oo, hop7⟩ : ∃ o, ops[7]? = some o := ⟨_, by rw [← hops]; rfl⟩
    have hv := hop7
    rw [← hops] at hv
    simp only [List.getElem?_toArray, List.getElem?_cons_succ, List.getElem?_cons_zero, Option.some.injEq] at hv
    subst hv
    obtain ⟨oo, hop8⟩ : ∃ o, ops[8]? = some o := ⟨_, by rw [← hops]; rfl⟩
    have hv := hop8
    rw [← hops] at hv
    simp only [List.getElem?_toArray, List.getElem?_cons_succ, List.getElem?_cons_zero, Option.some.injEq] at hv
    subst hv
    obtain ⟨oo, hop9⟩ : ∃ o, ops[9]? = some o := ⟨_, by rw [← hops]; rfl⟩
    have hv := hop9
    rw [← hops] at hv
    simp only [List.getElem?_toArray, List.getElem?_cons_succ, List.getElem?_cons_zero, Option.some.injEq] at hv
    subst hv
    obtain ⟨oo, hop10⟩ : ∃ o, ops[10]? = some o := ⟨_, by rw [← hops]; rfl⟩
    have hv := hop10
    rw [← hops] at hv
    simp only [List.getElem?_toArray, List.getElem?_cons_succ, List.getElem?_cons_zero, Option.some.injEq] at hv
    subst hv
    obtain ⟨oo, hop11⟩ : ∃ o, ops[11]? = some o := ⟨_, by rw [← hops]; rfl⟩
    have hv := hop11
    rw [← hops] at hv
    simp only [List.getElem?_toArray, List.getElem?_cons_succ, List.getElem?_cons_zero, Option.some.injEq] at hv
    subst hv
    have H10 : ∀ (s0 s2 s3 s4 s5 s7 s8 s9 s10 s11 s13 s14 s16 : Value) (X : World), Below W0.heap.size W0 X → wpAnyH Tryz.prog .any ops QQ (fun Z => Below W0.heap.size W0 Z) 2 (fsH 12 10 []) ({ tmps := #[s0, .pointer (some ⟨w.heap.size, 0, none⟩), s2, s3, s4, s5, .agg #[.slice a n c, .int .i64 win], s7, s8, s9, s10, s11, .int .i64 f, s13, s14, .int .i64 n, s16], defers := [] }) X := by
      as_aux_lemma =>
      intro s0 s2 s3 s4 s5 s7 s8 s9 s10 s11 s13 s14 s16 X hW'
      refine wpAnyH_all (rs := [10]) (by rw [← hops]; kernel_rfl) (by simp) ?_
      intro ix hix
      simp only [List.mem_cons, List.not_mem_nil, or_false] at hix
      rcases hix with rfl
      · refine held_op hop10 (by rfl) (fun K' hK => ?_)
        go_simp
        refine (E10.out X hW').mono ?_
        rintro e Y ⟨v16, rfl, f16, hb⟩
        dsimp only
        replace hW' := kept_trans hW' hb
        refine hK _ _ ⟨hW', ?_⟩
        clear hK K'
        (try simp only [Act.put, List.setIfInBounds_toArray, List.set_cons_zero, List.set_cons_succ])
        rw [show (fsH 12 10 []).setIfInBounds 10 true = (fsH 12 11 []) from by kernel_rfl]
        refine wpAnyH_take (i := 11) (v := v16) hop11 hNS (by rw [← hops]; kernel_rfl) (by rw [← hops]; kernel_rfl) (hQp _ _) (.inl ⟨(by rfl), fun wz hz => by
            have hW' := hz
            first | (go_simp; done) | (obtain ⟨z0, z1⟩ := hF.out _ hW'; go_simp)⟩) hW' ?_
        (try simp only [Act.put, List.setIfInBounds_toArray, List.set_cons_zero, List.set_cons_succ])
        rw [show (fsH 12 11 []).setIfInBounds 11 true = (fsH 12 12 []) from by kernel_rfl]
        refine wpAnyH_done (by rw [← hops]; kernel_rfl) ?_ _
        rw [← hQQ]
        refine NoPanic.normal ?_
        go_wp2_with fail
        go_ret
        exact ⟨_, rfl, row_base f16 hs0, kept_trans hB16.out hW'⟩
    have H5_7_8_9 : ∀ (s0 s2 s3 s4 s5 s7 s8 s11 s12 s13 s14 s16 : Value) (X : World), Below W0.heap.size W0 X → wpAnyH Tryz.prog .any ops QQ (fun Z => Below W0.heap.size W0 Z) 4 (fsH 12 5 [7, 8, 9]) ({ tmps := #[s0, .pointer (some ⟨w.heap.size, 0, none⟩), s2, s3, s4, s5, .agg #[.slice a n c, .int .i64 win], s7, s8, .int .i64 n, .agg #[.slice a n c, .int .i64 win], s11, s12, s13, s14, .int .i64 n, s16], defers := [] }) X := by
      as_aux_lemma =>
      intro s0 s2 s3 s4 s5 s7 s8 s11 s12 s13 s14 s16 X hW'
      refine wpAnyH_all (rs := [5]) (by rw [← hops]; kernel_rfl) (by simp) ?_
      intro ix hix
      simp only [List.mem_cons, List.not_mem_nil, or_false] at hix
      rcases hix with rfl
      · refine held_op hop5 (by rfl) (fun K' hK => ?_)
        go_simp
        refine (E5.out X hW').mono ?_
        rintro e Y ⟨rfl, hb⟩
        dsimp only
        replace hW' := kept_trans hW' hb
        refine hK _ _ ⟨hW', ?_⟩
        clear hK K'
        (try simp only [Act.put, List.setIfInBounds_toArray, List.set_cons_zero, List.set_cons_succ])
        rw [show (fsH 12 5 [7, 8, 9]).setIfInBounds 5 true = (fsH 12 6 [7, 8, 9]) from by kernel_rfl]
        refine wpAnyH_take (i := 6) (v := .int .i64 f) hop6 hNS (by rw [← hops]; kernel_rfl) (by rw [← hops]; kernel_rfl) (hQp _ _) (.inl ⟨(by rfl), fun wz hz => by
            have hW' := hz
            first | (go_simp; done) | (obtain ⟨z0, z1⟩ := hF.out _ hW'; go_simp)⟩) hW' ?_
        (try simp only [Act.put, List.setIfInBounds_toArray, List.set_cons_zero, List.set_cons_succ])
        rw [show (fsH 12 6 [7, 8, 9]).setIfInBounds 6 true = (fsH 12 10 []) from by kernel_rfl]
        exact H10 _ _ _ _ _ _ _ _ _ _ _ _ _ _ hW' 
    have hsz : ops.size = 12 := by rw [← hops]; rfl
    rw [hsz]
    rw [show Array.replicate 12 false = (fsH 12 0 []) from by rfl]
    refine wpAnyH_take (i := 0) (v := .agg #[.slice a n c, .int .i64 win]) hop0 hNS (by rw [← hops]; kernel_rfl) (by rw [← hops]; kernel_rfl) (hQp _ _) (.inl ⟨(by rfl), fun wz hz => by
        have hW' := hz
        first | (go_simp; done) | (obtain ⟨z0, z1⟩ := hF.out _ hW'; go_simp)⟩) hW' ?_
    (try simp only [Act.put, List.setIfInBounds_toArray, List.set_cons_zero, List.set_cons_succ])
    rw [show (fsH 12 0 []).setIfInBounds 0 true = (fsH 12 1 []) from by kernel_rfl]
    refine wpAnyH_take (i := 1) (v := .pointer (some ⟨w.heap.size, 0, none⟩)) hop1 hNS (by rw [← hops]; kernel_rfl) (by rw [← hops]; kernel_rfl) (hQp _ _) (.inl ⟨(by rfl), fun wz hz => by
        have hW' := hz
        first | (go_simp; done) | (obtain ⟨z0, z1⟩ := hF.out _ hW'; go_simp)⟩) hW' ?_
    (try simp only [Act.put, List.setIfInBounds_toArray, List.set_cons_zero, List.set_cons_succ])
    rw [show (fsH 12 1 []).setIfInBounds 1 true = (fsH 12 2 []) from by kernel_rfl]
    refine wpAnyH_take (i := 2) (v := .slice a n c) hop2 hNS (by rw [← hops]; kernel_rfl) (by rw [← hops]; kernel_rfl) (hQp _ _) (.inl ⟨(by rfl), fun wz hz => by
        have hW' := hz
        first | (go_simp; done) | (obtain ⟨z0, z1⟩ := hF.out _ hW'; go_simp)⟩) hW' ?_
    (try simp only [Act.put, List.setIfInBounds_toArray, List.set_cons_zero, List.set_cons_succ])
    rw [show (fsH 12 2 []).setIfInBounds 2 true = (fsH 12 3 []) from by kernel_rfl]
    refine wpAnyH_take (i := 3) (v := .int .i64 n) hop3 hNS (by rw [← hops]; kernel_rfl) (by rw [← hops]; kernel_rfl) (hQp _ _) (.inl ⟨(by rfl), fun wz hz => by
        have hW' := hz
        first | (go_simp; done) | (obtain ⟨z0, z1⟩ := hF.out _ hW'; go_simp)⟩) hW' ?_
    (try simp only [Act.put, List.setIfInBounds_toArray, List.set_cons_zero, List.set_cons_succ])
    rw [show (fsH 12 3 []).setIfInBounds 3 true = (fsH 12 4 []) from by kernel_rfl]
    refine wpAnyH_take (i := 4) (v := .agg #[.slice a n c, .int .i64 win]) hop4 hNS (by rw [← hops]; kernel_rfl) (by rw [← hops]; kernel_rfl) (hQp _ _) (.inl ⟨(by rfl), fun wz hz => by
        have hW' := hz
        first | (go_simp; done) | (obtain ⟨z0, z1⟩ := hF.out _ hW'; go_simp)⟩) hW' ?_
    (try simp only [Act.put, List.setIfInBounds_toArray, List.set_cons_zero, List.set_cons_succ])
    rw [show (fsH 12 4 []).setIfInBounds 4 true = (fsH 12 5 []) from by kernel_rfl]
    refine wpAnyH_take (i := 7) (v := .pointer (some ⟨w.heap.size, 0, none⟩)) hop7 hNS (by rw [← hops]; kernel_rfl) (by rw [← hops]; kernel_rfl) (hQp _ _) (.inl ⟨(by rfl), fun wz hz => by
        have hW' := hz
        first | (go_simp; done) | (obtain ⟨z0, z1⟩ := hF.out _ hW'; go_simp)⟩) hW' ?_
    (try simp only [Act.put, List.setIfInBounds_toArray, List.set_cons_zero, List.set_cons_succ])
    rw [show (fsH 12 5 []).setIfInBounds 7 true = (fsH 12 5 [7]) from by kernel_rfl]
    refine wpAnyH_take (i := 8) (v := .slice a n c) hop8 hNS (by rw [← hops]; kernel_rfl) (by rw [← hops]; kernel_rfl) (hQp _ _) (.inl ⟨(by rfl), fun wz hz => by
        have hW' := hz
        first | (go_simp; done) | (obtain ⟨z0, z1⟩ := hF.out _ hW'; go_simp)⟩) hW' ?_
    (try simp only [Act.put, List.setIfInBounds_toArray, List.set_cons_zero, List.set_cons_succ])
    rw [show (fsH 12 5 [7]).setIfInBounds 8 true = (fsH 12 5 [7, 8]) from by kernel_rfl]
    refine wpAnyH_take (i := 9) (v := .int .i64 n) hop9 hNS (by rw [← hops]; kernel_rfl) (by rw [← hops]; kernel_rfl) (hQp _ _) (.inl ⟨(by rfl), fun wz hz => by
        have hW' := hz
        first | (go_simp; done) | (obtain ⟨z0, z1⟩ := hF.out _ hW'; go_simp)⟩) hW' ?_
    (try simp only [Act.put, List.setIfInBounds_toArray, List.set_cons_zero, List.set_cons_succ])
    rw [show (fsH 12 5 [7, 8]).setIfInBounds 9 true = (fsH 12 5 [7, 8, 9]) from by kernel_rfl]
    exact H5_7_8_9 _ _ _ _ _ _ _ _ _ _ _ _ _ hW' 
set_option maxHeartbeats 1000000 in
theorem refGuards_R {v : Value} {L : List (Sp × Value)} (win : Int) (hg : great (L.map (·.1)) = false) (rv : Value) (row : List Int) (place : Int) (hrow : row.length ≤ 1000) (w : World) (h : SpsL w v L) (hr : NmsAt w rv row) :
    Calls Tryz.prog 15 #[ptV v win, rv, .int .i64 place] w fun e w' => ∃ u, e = .returned u ∧ w'.ownsRow w.heap.size 3 1 u (guardsL (L.map (·.1)) win row place).length (ints (guardsL (L.map (·.1)) win row place)) ∧ Below w.heap.size w w' := by
  have hb := kept_new w (.cells #[v, .int .i64 win] 24)
  have hp : PK w v win (w.alloc (.cells #[v, .int .i64 win] 24)) := ⟨PtBox.new w _ _, hb⟩
  have hI := refIs_R win hg rv row (by omega) _ (h.later hb) (hr.later hb)
  rw [rowsR_is2] at hI
  replace hI := Lib.hid hI
  obtain ⟨n, hn⟩ : ∃ n, L.length = n := ⟨_, rfl⟩
  obtain ⟨a, c, rfl⟩ := h.lit hn
  have c0 := hp.1.c0
  have c1 := hp.1.c1
  have hn41 : L.length ≤ 41 := (Small.of_great hg).1.len
  obtain ⟨Gd, hGd⟩ : ∃ Gd, guardsL (L.map (·.1)) win row place = Gd := ⟨_, rfl⟩
  rw [hGd]
  obtain ⟨ar, cr, rfl, hcr⟩ := id hr
  by_cases h1 : place < 1
  · obtain rfl : Gd = [] := by rw [← hGd]; unfold guardsL; rw [if_neg (by omega)]
    obtain ⟨lr, hlr⟩ : ∃ lr, row.length = lr := ⟨_, rfl⟩
    rw [hlr] at hI ⊢
    clear h hg hn hn41 hGd hr hcr hlr hI
    go_enter Tryz.func15, Tryz.ntmps15
    go_wp2_with fail
    go_ret
    exact ⟨_, rfl, World.ownsRow_nil _ _ _ _, hb⟩
  · by_cases h2 : (row.length : Int) ≤ place
    · obtain rfl : Gd = [] := by rw [← hGd]; unfold guardsL; rw [if_neg (by omega)]
      obtain ⟨lr, hlr⟩ : ∃ lr, row.length = lr := ⟨_, rfl⟩
      rw [hlr] at hI h2 ⊢
      clear h hg hn hn41 hGd hr hcr hlr hI
      go_enter Tryz.func15, Tryz.ntmps15
      go_wp2_with fail
      go_ret
      exact ⟨_, rfl, World.ownsRow_nil _ _ _ _, hb⟩
    · obtain ⟨D, hD⟩ : ∃ D, isP (L.map (·.1)) win row = D := ⟨_, rfl⟩
      rw [hD] at hI
      cases D with
      | false =>
        obtain rfl : Gd = [] := by rw [← hGd]; unfold guardsL; rw [hD, if_neg (by simp)]
        obtain ⟨lr, hlr⟩ : ∃ lr, row.length = lr := ⟨_, rfl⟩
        rw [hlr] at hI h2 ⊢
        clear h hg hn hn41 hGd hr hcr hlr hD
        go_enter Tryz.func15, Tryz.ntmps15
        go_wp2_with ((with_reducible refine hI.out.mono ?_); rintro e w2 ⟨rfl, hb2⟩)
        go_ret
        exact ⟨_, rfl, World.ownsRow_nil _ _ _ _, kept_trans hb hb2⟩
      | true =>
        have hmm : mayB (L.map (·.1)) win = true := by unfold isP at hD; rw [Bool.and_eq_true] at hD; exact hD.1
        have hq : row ∈ rowsP (L.map (·.1)) := by
          rw [(may_good hmm).mem]
          unfold isP at hD; rw [Bool.and_eq_true] at hD; exact hD.2
        obtain ⟨k, hk⟩ : ∃ k : Nat, place = k := ⟨place.toNat, by omega⟩
        subst hk
        obtain ⟨k1, hk1⟩ : ∃ k1, k = k1 + 1 := ⟨k - 1, by omega⟩
        obtain ⟨y, hy⟩ : ∃ y, row[k]? = some y := ⟨_, List.getElem?_eq_getElem (by omega)⟩
        obtain ⟨i, d, rfl, hil, hgu, hx, -, hpr, -⟩ := place_at hmm hq hy
        have hp1 := hpr (by omega)
        obtain ⟨f, hf⟩ : ∃ f, frL row k = f := ⟨_, rfl⟩
        rw [hf] at hgu hx hp1
        have hk1e : k - 1 = k1 := by omega
        rw [hk1e] at hp1
        obtain ⟨i', d', e', hil', -⟩ := place_at hmm hq hp1
        have hlm : (L.map (·.1)).length = n := by simpa using hn
        rw [hlm] at hil hil'
        have hdd : d = ((i : Int) - f).toNat := by
          have e1 : guardsL (L.map (·.1)) win row k = betL ((f : Int) - 1) i := by
            unfold guardsL
            rw [if_pos ⟨by omega, by omega, hD⟩]
            have e2 : ((k : Int) - 1).toNat = k1 := by omega
            rw [e2, hp1, Int.toNat_natCast, hy]
            rfl
          rw [hgu] at e1
          have := congrArg List.length e1
          unfold betL at this
          rw [fromL_len, fromL_len] at this
          rw [this]; congr 1; omega
        rw [hGd] at hgu
        subst hgu
        rw [fromL_len]
        have hNo := Lib.hid (fun X (hX : PK w (.slice a n c) win X) => nots_R (v := .slice a n c) win f d i (by omega) (by omega) hn41 (fun x hxx => (hx x hxx).1) (by omega) (by omega) X (h.later hX.2))
        have hrX : Hid (∀ X, Below w.heap.size w X → CellsAt X ar (ints row)) := fun X hX => hcr.later hX
        have hk2 : ¬ (row.length : Int) ≤ k := h2
        obtain ⟨lr, hlr⟩ : ∃ lr, row.length = lr := ⟨_, rfl⟩
        rw [hlr] at hI h2 hrow hr ⊢
        have hki : (k : Int) < lr := by omega
        have hk1i : (k1 : Int) < lr := by omega
        have hk1n : k1 < lr := by omega
        have hkn : k < lr := by omega
        have hw1 : Hid (IntKind.wrap .i64 ((k : Int) - 1) = (k1 : Int)) := by show _ = _; rw [IntKind.wrap_i64]; omega
        obtain ⟨pp, hpp⟩ : ∃ pp, (f : Int) - 1 = pp := ⟨_, rfl⟩
        rw [hpp] at hp1
        have hw2 : Hid (IntKind.wrap .i64 (pp + 1) = (f : Int)) := by show _ = _; rw [IntKind.wrap_i64]; omega
        replace hy := Lib.hid hy
        replace hp1 := Lib.hid hp1
        replace hk1 := Lib.hid hk1
        have hge : ¬ (k : Int) < 1 := by have := hk1.out; omega
        clear h hg hn hn41 hGd hr hcr hlr hD hmm hq hx hpr hf hil hil' e' hdd hlm hk1e hpp h1 hk2
        go_enter Tryz.func15, Tryz.ntmps15
        go_upto_region 3 with ((with_reducible refine hI.out.mono ?_); rintro e w2 ⟨rfl, hb2⟩)
        have hp2 : PK w (.slice a n c) win w2.drew := (hp.later hb2).later (below_drew w2)
        have hcX := hrX.out _ hp2.2
        obtain ⟨br, orr, rfl, q1⟩ := ints_look hcX hp1.out
        obtain ⟨br', orr', e', q2⟩ := ints_look hcX hy.out
        cases e'
        clear c0 c1 hI hp hb hcX hrX
        have c0 := hp2.1.c0
        have c1 := hp2.1.c1
        have Q1 := Lib.hid (hNo.out _ hp2)
        have hwa := hw1.out
        have hwb := hw2.out
        go_region_with ((with_reducible refine Q1.out.mono ?_); rintro e w3 ⟨u, rfl, ho, hb3⟩)
        all_goals
          go_wp2_with fail
          go_ret
          exact ⟨_, rfl, row_base ho hp2.2.size, kept_trans hp2.2 hb3⟩
end Go.Proofs.YtfkdgaeiiejjlaaGreat.Tree
/- UnrollTells' walk. -/
namespace Go.Proofs.YtfkdgaeiiejjlaaGreat.Tree
open Go.ChangeShapes Go.WideShapes Go.ChangeAt Go.RowKit
set_option linter.unusedVariables false
set_option linter.unusedSimpArgs false
set_option maxRecDepth 100000
attribute [local go_sem] Oper.semAt_some
theorem many_R2 {v : Value} {L : List (Sp × Value)} (win : Int) (hc : UnOk L) (w : World) (h : SpsL w v L) :
    Calls Tryz.prog 9 #[ptV v win] w fun e w' => e = .returned (.int .i64 ((rowsR (L.map (·.1)) win).length : Int)) ∧ Below w.heap.size w w' := by
  have := many_V win hc w h
  unfold rowsR
  split
  · rename_i hm; rw [if_pos hm] at this; exact this
  · rename_i hm; rw [if_neg hm] at this; exact this
theorem rows2_Z {W : World} {u1 u2 : Value} {R : List (List Int)} (h1 : OwnRows W 0 u1 R) (h2 : OwnRows W 0 u2 R) (hl : R.length ≤ 1000000) (hr : ∀ r ∈ R, r.length ≤ 12) :
    Calls Tryz.prog 6 #[u1, u2] W fun e w' => e = .returned (.bool true) ∧ Below W.heap.size W w' := by
  obtain ⟨vs1, k1⟩ := h1.at
  obtain ⟨vs2, k2⟩ := h2.at
  exact rows2_W k1 k2 hl hr
theorem OwnRows.later0 {W W' : World} {v : Value} {R : List (List Int)} (h : OwnRows W 0 v R) (hb : Below W.heap.size W W') : OwnRows W' 0 v R := h.later hb
set_option maxHeartbeats 4000000 in
theorem tellsWalk (hwk : WakesU) (v : Value) (L : List (Sp × Value)) (win : Int) (rv : Value) (row : List Int) (place : Int) (w : World) (h : SpsL w v L) (hl : L.length ≤ maxLen) (hq : ∀ x ∈ L, InSp w x) (hr : NmsIn w rv row) :
    Calls Tryz.prog 3 #[ptV v win, rv, .int .i64 place] w fun e w' => e = .returned (.bool true) ∧ Below w.heap.size w w' := by
  have hb := kept_new w (.cells #[v, .int .i64 win] 24)
  have hG := great_W win _ hl (h.later hb)
  have hW := Lib.hid hwk
  have hp : PK w v win (w.alloc (.cells #[v, .int .i64 win] 24)) := ⟨PtBox.new w _ _, hb⟩
  have c0 := hp.1.c0
  have c1 := hp.1.c1
  obtain ⟨n, hn⟩ : ∃ n, L.length = n := ⟨_, rfl⟩
  obtain ⟨a, c, rfl⟩ := h.lit hn
  have hrC := hr.1
  obtain ⟨ar, cr, rfl, -, -⟩ := hr.1
  obtain ⟨nr, hnr⟩ : ∃ nr, row.length = nr := ⟨_, rfl⟩
  rw [hnr] at hrC ⊢
  obtain ⟨G, hg⟩ : ∃ G, great (L.map (·.1)) = G := ⟨_, rfl⟩
  rw [hg] at hG
  cases G with
  | true =>
    replace hG := Lib.hid hG
    replace hb := Lib.hid hb
    clear hp h hl hg hwk hq hn hr hrC hnr
    go_enter Tryz.func3, Tryz.ntmps3
    go_wp2_with (first
      | ((with_reducible refine hG.out.mono ?_); rintro e w2 ⟨rfl, hb2⟩)
      | ((with_reducible refine (hW.out _).mono ?_); rintro e w3 ⟨rfl, hb3⟩))
    go_ret
    exact ⟨rfl, kept_trans hb.out (kept_trans hb2 hb3)⟩
  | false =>
    by_cases h20 : (20 : Int) < nr
    · replace hG := Lib.hid hG
      replace hb := Lib.hid hb
      clear hp h hl hg hwk hq hn hr hrC hnr
      go_enter Tryz.func3, Tryz.ntmps3
      go_wp2_with (first
        | ((with_reducible refine hG.out.mono ?_); rintro e w2 ⟨rfl, hb2⟩)
        | ((with_reducible refine (hW.out _).mono ?_); rintro e w3 ⟨rfl, hb3⟩))
      go_ret
      exact ⟨rfl, kept_trans hb.out (kept_trans hb2 hb3)⟩
    · have hok := unOk_of hg hq
      have hbd := rowsR_bd (L.map (·.1)) win
      have hn41 : L.length ≤ 41 := (Small.of_great hg).1.len
      have hAl : (afterL (L.map (·.1)) win).length ≤ 100 := by
        unfold afterL
        split
        · unfold betL
          rw [fromL_len]
          have := tailP_bd (L.map (·.1)) (by simpa using hn41)
          simp only [List.length_map] at this ⊢
          omega
        · simp
      have hGl : (guardsL (L.map (·.1)) win row place).length ≤ 1000000 := by
        unfold guardsL
        split
        · rename_i hc
          obtain ⟨g1, g2, g3⟩ := hc
          have hmm : mayB (L.map (·.1)) win = true := by unfold isP at g3; rw [Bool.and_eq_true] at g3; exact g3.1
          have hqm : row ∈ rowsP (L.map (·.1)) := by
            rw [(may_good hmm).mem]
            unfold isP at g3; rw [Bool.and_eq_true] at g3; exact g3.2
          obtain ⟨y1, hy1⟩ : ∃ y, row[(place - 1).toNat]? = some y := ⟨_, List.getElem?_eq_getElem (by omega)⟩
          obtain ⟨y2, hy2⟩ : ∃ y, row[place.toNat]? = some y := ⟨_, List.getElem?_eq_getElem (by omega)⟩
          obtain ⟨i1, d1, e1, k1, -⟩ := place_at hmm hqm hy1
          obtain ⟨i2, d2, e2, k2, -⟩ := place_at hmm hqm hy2
          rw [hy1, hy2]
          simp only [Option.getD_some]
          unfold betL
          rw [fromL_len]
          simp only [List.length_map] at k1 k2
          omega
        · simp
      obtain ⟨R, hR⟩ : ∃ R, rowsR (L.map (·.1)) win = R := ⟨_, rfl⟩
      obtain ⟨Gd, hGd⟩ : ∃ Gd, guardsL (L.map (·.1)) win row place = Gd := ⟨_, rfl⟩
      obtain ⟨Al, hAe⟩ : ∃ Al, afterL (L.map (·.1)) win = Al := ⟨_, rfl⟩
      obtain ⟨D, hD⟩ : ∃ D, isP (L.map (·.1)) win row = D := ⟨_, rfl⟩
      obtain ⟨m, hm⟩ : ∃ m, R.length = m := ⟨_, rfl⟩
      have K0 : Hid (∀ X, PK w (.slice a n c) win X → SpsL X (.slice a n c) L ∧ NmsC X (.slice ar nr cr) row) := fun X hX => ⟨h.later hX.2, hrC.later hX.2⟩
      have hrow20 : row.length ≤ 1000 := by omega
      have A1 : Hid (∀ X, PK w (.slice a n c) win X → Calls Tryz.prog 7 #[.agg #[.slice a n c, .int .i64 win]] X fun e Y => ∃ u, e = .returned u ∧ OwnRows Y 0 u R ∧ Below X.heap.size X Y) := fun X hX => by
        refine (rows_R win hok X (K0.out X hX).1).mono ?_
        rintro e Y ⟨u, h1, h2, h3⟩
        exact ⟨u, h1, by rw [← hR]; exact h2.base (Nat.zero_le _), h3⟩
      have A3 : Hid (∀ X, PK w (.slice a n c) win X → Calls Tryz.prog 8 #[.agg #[.slice a n c, .int .i64 win]] X fun e Y => ∃ u, e = .returned u ∧ OwnRows Y 0 u R ∧ Below X.heap.size X Y) := fun X hX => by
        refine (refRows_R win hg X (K0.out X hX).1).mono ?_
        rintro e Y ⟨u, h1, h2, h3⟩
        exact ⟨u, h1, by rw [← hR]; exact h2.base (Nat.zero_le _), h3⟩
      have A7 : Hid (∀ X, PK w (.slice a n c) win X → Calls Tryz.prog 9 #[.agg #[.slice a n c, .int .i64 win]] X fun e Y => e = .returned (.int .i64 m) ∧ Below X.heap.size X Y) := fun X hX => by
        rw [← hm, ← hR]; exact many_R2 win hok X (K0.out X hX).1
      have A9 : Hid (∀ X, PK w (.slice a n c) win X → Calls Tryz.prog 10 #[.agg #[.slice a n c, .int .i64 win]] X fun e Y => e = .returned (.int .i64 m) ∧ Below X.heap.size X Y) := fun X hX => by
        rw [← hm, ← hR]; exact refMany_R win hg X (K0.out X hX).1
      have A15 : Hid (∀ X, PK w (.slice a n c) win X → Calls Tryz.prog 11 #[.agg #[.slice a n c, .int .i64 win], .slice ar nr cr] X fun e Y => e = .returned (.bool D) ∧ Below X.heap.size X Y) := fun X hX => by
        rw [← hD]; exact is_V win hok _ row (by omega) X (K0.out X hX).1 (K0.out X hX).2
      have A18 : Hid (∀ X, PK w (.slice a n c) win X → Calls Tryz.prog 12 #[.agg #[.slice a n c, .int .i64 win], .slice ar nr cr] X fun e Y => e = .returned (.bool D) ∧ Below X.heap.size X Y) := fun X hX => by
        have := refIs_R win hg _ row (by omega) X (K0.out X hX).1 (K0.out X hX).2.nms
        rw [rowsR_is2, hD] at this; exact this
      have A25 : Hid (∀ X, PK w (.slice a n c) win X → Calls Tryz.prog 14 #[.agg #[.slice a n c, .int .i64 win], .slice ar nr cr, .int .i64 place] X fun e Y => ∃ u, e = .returned u ∧ NmsAt Y u Gd ∧ Below X.heap.size X Y) := fun X hX => by
        refine (guards_V win hok _ row place (by omega) X (K0.out X hX).1 (K0.out X hX).2).mono ?_
        rintro e Y ⟨u, h1, h2, h3⟩
        exact ⟨u, h1, by rw [← hGd]; exact nms_own h2, h3⟩
      have A29 : Hid (∀ X, PK w (.slice a n c) win X → Calls Tryz.prog 15 #[.agg #[.slice a n c, .int .i64 win], .slice ar nr cr, .int .i64 place] X fun e Y => ∃ u, e = .returned u ∧ NmsAt Y u Gd ∧ Below X.heap.size X Y) := fun X hX => by
        refine (refGuards_R win hg _ row place hrow20 X (K0.out X hX).1 (K0.out X hX).2.nms).mono ?_
        rintro e Y ⟨u, h1, h2, h3⟩
        exact ⟨u, h1, by rw [← hGd]; exact nms_own h2, h3⟩
      have A34 : Hid (∀ X, PK w (.slice a n c) win X → Calls Tryz.prog 16 #[.agg #[.slice a n c, .int .i64 win]] X fun e Y => ∃ u, e = .returned u ∧ NmsAt Y u Al ∧ Below X.heap.size X Y) := fun X hX => by
        refine (after_V win hok X (K0.out X hX).1).mono ?_
        rintro e Y ⟨u, h1, h2, h3⟩
        exact ⟨u, h1, by rw [← hAe]; exact nms_own h2, h3⟩
      have A36 : Hid (∀ X, PK w (.slice a n c) win X → Calls Tryz.prog 17 #[.agg #[.slice a n c, .int .i64 win]] X fun e Y => ∃ u, e = .returned u ∧ NmsAt Y u Al ∧ Below X.heap.size X Y) := fun X hX => by
        refine (refAfter_R win hg X (K0.out X hX).1).mono ?_
        rintro e Y ⟨u, h1, h2, h3⟩
        exact ⟨u, h1, by rw [← hAe]; exact nms_own h2, h3⟩
      rw [hR] at hbd
      rw [hGd] at hGl
      rw [hAe] at hAl
      have E4 : Hid (∀ X (u1 u2 : Value), OwnRows X 0 u1 R → OwnRows X 0 u2 R → Calls Tryz.prog 6 #[u1, u2] X fun e Y => e = .returned (.bool true) ∧ Below X.heap.size X Y) := fun X u1 u2 h1 h2 => rows2_Z h1 h2 (by omega) hbd.2
      have E30 : Hid (∀ X (u v : Value), NmsAt X u Gd → NmsAt X v Gd → Calls Tryz.prog 13 #[u, v] X fun e Y => e = .returned (.bool true) ∧ Below X.heap.size X Y) := fun X u v hu hv => by
        have := ints2_V (by unfold maxLen; omega) (by unfold maxLen; omega) X hu hv
        simpa using this
      have E37 : Hid (∀ X (u v : Value), NmsAt X u Al → NmsAt X v Al → Calls Tryz.prog 13 #[u, v] X fun e Y => e = .returned (.bool true) ∧ Below X.heap.size X Y) := fun X u v hu hv => by
        have := ints2_V (by unfold maxLen; omega) (by unfold maxLen; omega) X hu hv
        simpa using this
      replace hG := Lib.hid hG
      replace hnr := Lib.hid hnr
      clear h hl hg hwk hq hn hr hrC hok hbd hAl hGl hR hGd hAe hD hm K0 hrow20 hn41
      go_enter Tryz.func3, Tryz.ntmps3
      go_upto_region 3 with ((with_reducible refine hG.out.mono ?_); rintro e w2 ⟨rfl, hb2⟩)
      obtain ⟨W0, hW0⟩ : ∃ W0, w2.drew = W0 := ⟨_, rfl⟩
      have hpW : PK w (.slice a n c) win W0 := by rw [← hW0]; exact (hp.later hb2).later (below_drew w2)
      have hKX : Hid (∀ X, Below W0.heap.size W0 X → PK w (.slice a n c) win X) := fun X hX => hpW.later hX
      have hB16 := Lib.hid hpW.2
      have hF : Hid (∀ X, Below W0.heap.size W0 X → X.cell? ⟨w.heap.size, 0, none⟩ = some (.slice a n c) ∧ X.cell? ⟨w.heap.size, 1, none⟩ = some (.int .i64 win)) := fun X hX => ⟨(hKX.out X hX).1.c0, (hKX.out X hX).1.c1⟩
      have E1 := Lib.hid (fun X (hX : Below W0.heap.size W0 X) => A1.out X (hKX.out X hX))
      have E3 := Lib.hid (fun X (hX : Below W0.heap.size W0 X) => A3.out X (hKX.out X hX))
      have E7 := Lib.hid (fun X (hX : Below W0.heap.size W0 X) => A7.out X (hKX.out X hX))
      have E9 := Lib.hid (fun X (hX : Below W0.heap.size W0 X) => A9.out X (hKX.out X hX))
      have E15 := Lib.hid (fun X (hX : Below W0.heap.size W0 X) => A15.out X (hKX.out X hX))
      have E18 := Lib.hid (fun X (hX : Below W0.heap.size W0 X) => A18.out X (hKX.out X hX))
      have E25 := Lib.hid (fun X (hX : Below W0.heap.size W0 X) => A25.out X (hKX.out X hX))
      have E29 := Lib.hid (fun X (hX : Below W0.heap.size W0 X) => A29.out X (hKX.out X hX))
      have E34 := Lib.hid (fun X (hX : Below W0.heap.size W0 X) => A34.out X (hKX.out X hX))
      have E36 := Lib.hid (fun X (hX : Below W0.heap.size W0 X) => A36.out X (hKX.out X hX))
      have hmx : Tryz.prog.follows .mixedOrders = true := by kernel_rfl
      have hW' := Below.refl W0.heap.size W0
      clear A1 A3 A7 A9 A15 A18 A25 A29 A34 A36 c0 c1 hp hb hb2 hpW hG hKX
      refine wp_region_noPanic ?_
      refine wp_region_held (S := fun Z => Below W0.heap.size W0 Z) hmx ?_
      try dsimp only [List.append]
      change wpAnyH _ _ _ _ _ _ _ _ w2.drew
      rw [hW0]
      generalize hops : (List.toArray _ : Array Oper) = ops
      generalize hQQ : NoPanic _ = QQ
      have hQp : ∀ (d : Option Tmp) (v : Value) (c : _) (a : Act) (w : World), QQ (.panic c) (a.put d v) w → QQ (.panic c) a w := by rw [← hQQ]; intro d v c a w h; exact h
      have hNS : Region.noSelect ops = true := by rw [← hops]; kernel_rfl
      obtain ⟨oo, hop0⟩ : ∃ o, ops[0]? = some o := ⟨_, by rw [← hops]; rfl⟩
      have hv := hop0
      rw [← hops] at hv
      simp only [List.getElem?_toArray, List.getElem?_cons_succ, List.getElem?_cons_zero, Option.some.injEq] at hv
      subst hv
      obtain ⟨oo, hop1⟩ : ∃ o, ops[1]? = some o := ⟨_, by rw [← hops]; rfl⟩
      have hv := hop1
      rw [← hops] at hv
      simp only [List.getElem?_toArray, List.getElem?_cons_succ, List.getElem?_cons_zero, Option.some.injEq] at hv
      subst hv
      obtain ⟨oo, hop2⟩ : ∃ o, ops[2]? = some o := ⟨_, by rw [← hops]; rfl⟩
      have hv := hop2
      rw [← hops] at hv
      simp only [List.getElem?_toArray, List.getElem?_cons_succ, List.getElem?_cons_zero, Option.some.injEq] at hv
      subst hv
      obtain ⟨oo, hop3⟩ : ∃ o, ops[3]? = some o := ⟨_, by rw [← hops]; rfl⟩
      have hv := hop3
      rw [← hops] at hv
      simp only [List.getElem?_toArray, List.getElem?_cons_succ, List.getElem?_cons_zero, Option.some.injEq] at hv
      subst hv
      obtain ⟨oo, hop4⟩ : ∃ o, ops[4]? = some o := ⟨_, by rw [← hops]; rfl⟩
      have hv := hop4
      rw [← hops] at hv
      simp only [List.getElem?_toArray, List.getElem?_cons_succ, List.getElem?_cons_zero, Option.some.injEq] at hv
      subst hv
      obtain ⟨oo, hop5⟩ : ∃ o, ops[5]? = some o := ⟨_, by rw [← hops]; rfl⟩
      have hv := hop5
      rw [← hops] at hv
      simp only [List.getElem?_toArray, List.getElem?_cons_succ, List.getElem?_cons_zero, Option.some.injEq] at hv
      subst hv
      obtain ⟨oo, hop6⟩ : ∃ o, ops[6]? = some o := ⟨_, by rw [← hops]; rfl⟩
      have hv := hop6
      rw [← hops] at hv
      simp only [List.getElem?_toArray, List.getElem?_cons_succ, List.getElem?_cons_zero, Option.some.injEq] at hv
      subst hv
      obtain ⟨oo, hop7⟩ : ∃ o, ops[7]? = some o := ⟨_, by rw [← hops]; rfl⟩
      have hv := hop7
      rw [← hops] at hv
      simp only [List.getElem?_toArray, List.getElem?_cons_succ, List.getElem?_cons_zero, Option.some.injEq] at hv
      subst hv
      obtain ⟨oo, hop8⟩ : ∃ o, ops[8]? = some o := ⟨_, by rw [← hops]; rfl⟩
      have hv := hop8
      rw [← hops] at hv
      simp only [List.getElem?_toArray, List.getElem?_cons_succ, List.getElem?_cons_zero, Option.some.injEq] at hv
      subst hv
      obtain ⟨oo, hop9⟩ : ∃ o, ops[9]? = some o := ⟨_, by rw [← hops]; rfl⟩
      have hv := hop9
      rw [← hops] at hv
      simp only [List.getElem?_toArray, List.getElem?_cons_succ, List.getElem?_cons_zero, Option.some.injEq] at hv
      subst hv
      obtain ⟨oo, hop10⟩ : ∃ o, ops[10]? = some o := ⟨_, by rw [← hops]; rfl⟩
      have hv := hop10
      rw [← hops] at hv
      simp only [List.getElem?_toArray, List.getElem?_cons_succ, List.getElem?_cons_zero, Option.some.injEq] at hv
      subst hv
      obtain ⟨oo, hop11⟩ : ∃ o, ops[11]? = some o := ⟨_, by rw [← hops]; rfl⟩
      have hv := hop11
      rw [← hops] at hv
      simp only [List.getElem?_toArray, List.getElem?_cons_succ, List.getElem?_cons_zero, Option.some.injEq] at hv
      subst hv
      obtain ⟨oo, hop12⟩ : ∃ o, ops[12]? = some o := ⟨_, by rw [← hops]; rfl⟩
      have hv := hop12
      rw [← hops] at hv
      simp only [List.getElem?_toArray, List.getElem?_cons_succ, List.getElem?_cons_zero, Option.some.injEq] at hv
      subst hv
      obtain ⟨oo, hop13⟩ : ∃ o, ops[13]? = some o := ⟨_, by rw [← hops]; rfl⟩
      have hv := hop13
      rw [← hops] at hv
      simp only [List.getElem?_toArray, List.getElem?_cons_succ, List.getElem?_cons_zero, Option.some.injEq] at hv
      subst hv
      obtain ⟨oo, hop14⟩ : ∃ o, ops[14]? = some o := ⟨_, by rw [← hops]; rfl⟩
      have hv := hop14
      rw [← hops] at hv
      simp only [List.getElem?_toArray, List.getElem?_cons_succ, List.getElem?_cons_zero, Option.some.injEq] at hv
      subst hv
      obtain ⟨oo, hop15⟩ : ∃ o, ops[15]? = some o := ⟨_, by rw [← hops]; rfl⟩
      have hv := hop15
      rw [← hops] at hv
      simp only [List.getElem?_toArray, List.getElem?_cons_succ, List.getElem?_cons_zero, Option.some.injEq] at hv
      subst hv
      obtain ⟨oo, hop16⟩ : ∃ o, ops[16]? = some o := ⟨_, by rw [← hops]; rfl⟩
      have hv := hop16
      rw [← hops] at hv
      simp only [List.getElem?_toArray, List.getElem?_cons_succ, List.getElem?_cons_zero, Option.some.injEq] at hv
      subst hv
      obtain ⟨oo, hop17⟩ : ∃ o, ops[17]? = some o := ⟨_, by rw [← hops]; rfl⟩
      have hv := hop17
      rw [← hops] at hv
      simp only [List.getElem?_toArray, List.getElem?_cons_succ, List.getElem?_cons_zero, Option.some.injEq] at hv
      subst hv
      obtain ⟨oo, hop18⟩ : ∃ o, ops[18]? = some o := ⟨_, by rw [← hops]; rfl⟩
      have hv := hop18
      rw [← hops] at hv
      simp only [List.getElem?_toArray, List.getElem?_cons_succ, List.getElem?_cons_zero, Option.some.injEq] at hv
      subst hv
      obtain ⟨oo, hop19⟩ : ∃ o, ops[19]? = some o := ⟨_, by rw [← hops]; rfl⟩
      have hv := hop19
      rw [← hops] at hv
      simp only [List.getElem?_toArray, List.getElem?_cons_succ, List.getElem?_cons_zero, Option.some.injEq] at hv
      subst hv
      obtain ⟨oo, hop20⟩ : ∃ o, ops[20]? = some o := ⟨_, by rw [← hops]; rfl⟩
      have hv := hop20
      rw [← hops] at hv
      simp only [List.getElem?_toArray, List.getElem?_cons_succ, List.getElem?_cons_zero, Option.some.injEq] at hv
      subst hv
      obtain ⟨oo, hop21⟩ : ∃ o, ops[21]? = some o := ⟨_, by rw [← hops]; rfl⟩
      have hv := hop21
      rw [← hops] at hv
      simp only [List.getElem?_toArray, List.getElem?_cons_succ, List.getElem?_cons_zero, Option.some.injEq] at hv
      subst hv
      obtain ⟨oo, hop22⟩ : ∃ o, ops[22]? = some o := ⟨_, by rw [← hops]; rfl⟩
      have hv := hop22
      rw [← hops] at hv
      simp only [List.getElem?_toArray, List.getElem?_cons_succ, List.getElem?_cons_zero, Option.some.injEq] at hv
      subst hv
      obtain ⟨oo, hop23⟩ : ∃ o, ops[23]? = some o := ⟨_, by rw [← hops]; rfl⟩
      have hv := hop23
      rw [← hops] at hv
      simp only [List.getElem?_toArray, List.getElem?_cons_succ, List.getElem?_cons_zero, Option.some.injEq] at hv
      subst hv
      obtain ⟨oo, hop24⟩ : ∃ o, ops[24]? = some o := ⟨_, by rw [← hops]; rfl⟩
      have hv := hop24
      rw [← hops] at hv
      simp only [List.getElem?_toArray, List.getElem?_cons_succ, List.getElem?_cons_zero, Option.some.injEq] at hv
      subst hv
      obtain ⟨oo, hop25⟩ : ∃ o, ops[25]? = some o := ⟨_, by rw [← hops]; rfl⟩
      have hv := hop25
      rw [← hops] at hv
      simp only [List.getElem?_toArray, List.getElem?_cons_succ, List.getElem?_cons_zero, Option.some.injEq] at hv
      subst hv
      obtain ⟨oo, hop26⟩ : ∃ o, ops[26]? = some o := ⟨_, by rw [← hops]; rfl⟩
      have hv := hop26
      rw [← hops] at hv
      simp only [List.getElem?_toArray, List.getElem?_cons_succ, List.getElem?_cons_zero, Option.some.injEq] at hv
      subst hv
      obtain ⟨oo, hop27⟩ : ∃ o, ops[27]? = some o := ⟨_, by rw [← hops]; rfl⟩
      have hv := hop27
      rw [← hops] at hv
      simp only [List.getElem?_toArray, List.getElem?_cons_succ, List.getElem?_cons_zero, Option.some.injEq] at hv
      subst hv
      obtain ⟨oo, hop28⟩ : ∃ o, ops[28]? = some o := ⟨_, by rw [← hops]; rfl⟩
      have hv := hop28
      rw [← hops] at hv
      simp only [List.getElem?_toArray, List.getElem?_cons_succ, List.getElem?_cons_zero, Option.some.injEq] at hv
      subst hv
      obtain ⟨oo, hop29⟩ : ∃ o, ops[29]? = some o := ⟨_, by rw [← hops]; rfl⟩
      have hv := hop29
      rw [← hops] at hv
      simp only [List.getElem?_toArray, List.getElem?_cons_succ, List.getElem?_cons_zero, Option.some.injEq] at hv
      subst hv
      obtain ⟨oo, hop30⟩ : ∃ o, ops[30]? = some o := ⟨_, by rw [← hops]; rfl⟩
      have hv := hop30
      rw [← hops] at hv
      simp only [List.getElem?_toArray, List.getElem?_cons_succ, List.getElem?_cons_zero, Option.some.injEq] at hv
      subst hv
      obtain ⟨oo, hop31⟩ : ∃ o, ops[31]? = some o := ⟨_, by rw [← hops]; rfl⟩
      have hv := hop31
      rw [← hops] at hv
      simp only [List.getElem?_toArray, List.getElem?_cons_succ, List.getElem?_cons_zero, Option.some.injEq] at hv
      subst hv
      obtain ⟨oo, hop32⟩ : ∃ o, ops[32]? = some o := ⟨_, by rw [← hops]; rfl⟩
      have hv := hop32
      rw [← hops] at hv
      simp only [List.getElem?_toArray, List.getElem?_cons_succ, List.getElem?_cons_zero, Option.some.injEq] at hv
      subst hv
      obtain ⟨oo, hop33⟩ : ∃ o, ops[33]? = some o := ⟨_, by rw [← hops]; rfl⟩
      have hv := hop33
      rw [← hops] at hv
      simp only [List.getElem?_toArray, List.getElem?_cons_succ, List.getElem?_cons_zero, Option.some.injEq] at hv
      subst hv
      obtain ⟨oo, hop34⟩ : ∃ o, ops[34]? = some o := ⟨_, by rw [← hops]; rfl⟩
      have hv := hop34
      rw [← hops] at hv
      simp only [List.getElem?_toArray, List.getElem?_cons_succ, List.getElem?_cons_zero, Option.some.injEq] at hv
      subst hv
      obtain ⟨oo, hop35⟩ : ∃ o, ops[35]? = some o := ⟨_, by rw [← hops]; rfl⟩
      have hv := hop35
      rw [← hops] at hv
      simp only [List.getElem?_toArray, List.getElem?_cons_succ, List.getElem?_cons_zero, Option.some.injEq] at hv
      subst hv
      obtain ⟨oo, hop36⟩ : ∃ o, ops[36]? = some o := ⟨_, by rw [← hops]; rfl⟩
      have hv := hop36
      rw [← hops] at hv
      simp only [List.getElem?_toArray, List.getElem?_cons_succ, List.getElem?_cons_zero, Option.some.injEq] at hv
      subst hv
      obtain ⟨oo, hop37⟩ : ∃ o, ops[37]? = some o := ⟨_, by rw [← hops]; rfl⟩
      have hv := hop37
      rw [← hops] at hv
      simp only [List.getElem?_toArray, List.getElem?_cons_succ, List.getElem?_cons_zero, Option.some.injEq] at hv
      subst hv
      obtain ⟨oo, hop38⟩ : ∃ o, ops[38]? = some o := ⟨_, by rw [← hops]; rfl⟩
      have hv := hop38
      rw [← hops] at hv
      simp only [List.getElem?_toArray, List.getElem?_cons_succ, List.getElem?_cons_zero, Option.some.injEq] at hv
      subst hv
      obtain ⟨oo, hop39⟩ : ∃ o, ops[39]? = some o := ⟨_, by rw [← hops]; rfl⟩
      have hv := hop39
      rw [← hops] at hv
      simp only [List.getElem?_toArray, List.getElem?_cons_succ, List.getElem?_cons_zero, Option.some.injEq] at hv
      subst hv
      obtain ⟨oo, hop40⟩ : ∃ o, ops[40]? = some o := ⟨_, by rw [← hops]; rfl⟩
      have hv := hop40
      rw [← hops] at hv
      simp only [List.getElem?_toArray, List.getElem?_cons_succ, List.getElem?_cons_zero, Option.some.injEq] at hv
      subst hv
      obtain ⟨oo, hop41⟩ : ∃ o, ops[41]? = some o := ⟨_, by rw [← hops]; rfl⟩
      have hv := hop41
      rw [← hops] at hv
      simp only [List.getElem?_toArray, List.getElem?_cons_succ, List.getElem?_cons_zero, Option.some.injEq] at hv
      subst hv
      obtain ⟨oo, hop42⟩ : ∃ o, ops[42]? = some o := ⟨_, by rw [← hops]; rfl⟩
      have hv := hop42
      rw [← hops] at hv
      simp only [List.getElem?_toArray, List.getElem?_cons_succ, List.getElem?_cons_zero, Option.some.injEq] at hv
      subst hv
      have H40 : ∀ (s0 s4 s5 s6 s7 s8 s9 s10 s11 s12 s13 s14 s15 s16 s17 s18 s19 s20 s21 s22 s23 s24 s25 s26 s27 s28 s29 s30 s31 s32 s33 s34 s35 s36 s37 s38 s39 s40 s41 s42 s43 s44 s45 s46 s47 s48 s49 s50 s51 s52 s53 s55 s56 : Value) (X : World), Below W0.heap.size W0 X → wpAnyH Tryz.prog .any ops QQ (fun Z => Below W0.heap.size W0 Z) 3 (fsH 43 40 []) ({ tmps := #[s0, .slice ar nr cr, .int .i64 place, .pointer (some ⟨w.heap.size, 0, none⟩), s4, s5, s6, s7, s8, s9, s10, s11, s12, s13, s14, s15, s16, s17, s18, s19, s20, s21, s22, s23, s24, s25, s26, s27, s28, s29, s30, s31, s32, s33, s34, s35, s36, s37, s38, s39, s40, s41, s42, s43, s44, s45, s46, s47, s48, s49, s50, s51, s52, s53, .bool true, s55, s56], defers := [] }) X := by
        as_aux_lemma =>
        intro s0 s4 s5 s6 s7 s8 s9 s10 s11 s12 s13 s14 s15 s16 s17 s18 s19 s20 s21 s22 s23 s24 s25 s26 s27 s28 s29 s30 s31 s32 s33 s34 s35 s36 s37 s38 s39 s40 s41 s42 s43 s44 s45 s46 s47 s48 s49 s50 s51 s52 s53 s55 s56 X hW'
        refine wpAnyH_all (rs := [40]) (by rw [← hops]; kernel_rfl) (by simp) ?_
        intro ix hix
        simp only [List.mem_cons, List.not_mem_nil, or_false] at hix
        rcases hix with rfl
        · refine held_op hop40 (by rw [← hops]; kernel_rfl) (fun K' hK => ?_)
          go_simp
          refine (hW.out X).mono ?_
          rintro e Y ⟨rfl, hb⟩
          dsimp only
          replace hW' := kept_trans hW' hb
          refine hK _ _ ⟨hW', ?_⟩
          clear hK K'
          (try simp only [Act.put, List.setIfInBounds_toArray, List.set_cons_zero, List.set_cons_succ])
          rw [show (fsH 43 40 []).setIfInBounds 40 true = (fsH 43 41 []) from by kernel_rfl]
          refine wpAnyH_take (i := 41) (v := .bool true) hop41 hNS (by rw [← hops]; kernel_rfl) (by rw [← hops]; kernel_rfl) (hQp _ _) (.inl ⟨(by rfl), fun wz hz => by
              have hW' := hz
              first | (go_simp; done) | (obtain ⟨z0, z1⟩ := hF.out _ hW'; go_simp)⟩) hW' ?_
          (try simp only [Act.put, List.setIfInBounds_toArray, List.set_cons_zero, List.set_cons_succ])
          rw [show (fsH 43 41 []).setIfInBounds 41 true = (fsH 43 42 []) from by kernel_rfl]
          refine wpAnyH_take (i := 42) (v := .bool true) hop42 hNS (by rw [← hops]; kernel_rfl) (by rw [← hops]; kernel_rfl) (hQp _ _) (.inl ⟨(by rfl), fun wz hz => by
              have hW' := hz
              first | (go_simp; done) | (obtain ⟨z0, z1⟩ := hF.out _ hW'; go_simp)⟩) hW' ?_
          (try simp only [Act.put, List.setIfInBounds_toArray, List.set_cons_zero, List.set_cons_succ])
          rw [show (fsH 43 42 []).setIfInBounds 42 true = (fsH 43 43 []) from by kernel_rfl]
          refine wpAnyH_done (by rw [← hops]; kernel_rfl) ?_ _
          rw [← hQQ]
          refine NoPanic.normal ?_
          go_wp2_with fail
          go_ret
          exact ⟨rfl, kept_trans hB16.out hW'⟩
      have H37 : ∀ (s0 s4 s5 s6 s7 s8 s9 s10 s11 s12 s13 s14 s15 s16 s17 s18 s19 s20 s21 s22 s23 s24 s25 s26 s27 s28 s29 s30 s31 s32 s33 s34 s35 s36 s37 s38 s39 s40 s41 s42 s43 s44 s45 s46 s48 s50 s52 s53 s54 s55 s56 : Value) (v49 : Value) (v51 : Value) (X : World), Below W0.heap.size W0 X → NmsAt X v49 Al → NmsAt X v51 Al → wpAnyH Tryz.prog .any ops QQ (fun Z => Below W0.heap.size W0 Z) 6 (fsH 43 37 []) ({ tmps := #[s0, .slice ar nr cr, .int .i64 place, .pointer (some ⟨w.heap.size, 0, none⟩), s4, s5, s6, s7, s8, s9, s10, s11, s12, s13, s14, s15, s16, s17, s18, s19, s20, s21, s22, s23, s24, s25, s26, s27, s28, s29, s30, s31, s32, s33, s34, s35, s36, s37, s38, s39, s40, s41, s42, s43, s44, s45, s46, .bool true, s48, v49, s50, v51, s52, s53, s54, s55, s56], defers := [] }) X := by
        as_aux_lemma =>
        intro s0 s4 s5 s6 s7 s8 s9 s10 s11 s12 s13 s14 s15 s16 s17 s18 s19 s20 s21 s22 s23 s24 s25 s26 s27 s28 s29 s30 s31 s32 s33 s34 s35 s36 s37 s38 s39 s40 s41 s42 s43 s44 s45 s46 s48 s50 s52 s53 s54 s55 s56 v49 v51 X hW' f49 f51
        refine wpAnyH_all (rs := [37]) (by rw [← hops]; kernel_rfl) (by simp) ?_
        intro ix hix
        simp only [List.mem_cons, List.not_mem_nil, or_false] at hix
        rcases hix with rfl
        · refine held_op hop37 (by rw [← hops]; kernel_rfl) (fun K' hK => ?_)
          go_simp
          refine (E37.out X _ _ f49 f51).mono ?_
          rintro e Y ⟨rfl, hb⟩
          dsimp only
          replace hW' := kept_trans hW' hb
          refine hK _ _ ⟨hW', ?_⟩
          clear hK K'
          (try simp only [Act.put, List.setIfInBounds_toArray, List.set_cons_zero, List.set_cons_succ])
          rw [show (fsH 43 37 []).setIfInBounds 37 true = (fsH 43 38 []) from by kernel_rfl]
          refine wpAnyH_take (i := 38) (v := .bool true) hop38 hNS (by rw [← hops]; kernel_rfl) (by rw [← hops]; kernel_rfl) (hQp _ _) (.inl ⟨(by rfl), fun wz hz => by
              have hW' := hz
              first | (go_simp; done) | (obtain ⟨z0, z1⟩ := hF.out _ hW'; go_simp)⟩) hW' ?_
          (try simp only [Act.put, List.setIfInBounds_toArray, List.set_cons_zero, List.set_cons_succ])
          rw [show (fsH 43 38 []).setIfInBounds 38 true = (fsH 43 39 []) from by kernel_rfl]
          refine wpAnyH_take (i := 39) (v := .bool true) hop39 hNS (by rw [← hops]; kernel_rfl) (by rw [← hops]; kernel_rfl) (hQp _ _) (.inl ⟨(by rfl), fun wz hz => by
              have hW' := hz
              first | (go_simp; done) | (obtain ⟨z0, z1⟩ := hF.out _ hW'; go_simp)⟩) hW' ?_
          (try simp only [Act.put, List.setIfInBounds_toArray, List.set_cons_zero, List.set_cons_succ])
          rw [show (fsH 43 39 []).setIfInBounds 39 true = (fsH 43 40 []) from by kernel_rfl]
          exact H40 _ _ _ _ _ _ _ _ _ _ _ _ _ _ _ _ _ _ _ _ _ _ _ _ _ _ _ _ _ _ _ _ _ _ _ _ _ _ _ _ _ _ _ _ _ _ _ _ _ _ _ _ _ _ hW' 
      have H36 : ∀ (s0 s4 s5 s6 s7 s8 s9 s10 s11 s12 s13 s14 s15 s16 s17 s18 s19 s20 s21 s22 s23 s24 s25 s26 s27 s28 s29 s30 s31 s32 s33 s34 s35 s36 s37 s38 s39 s40 s41 s42 s43 s44 s45 s46 s48 s51 s52 s53 s54 s55 s56 : Value) (v49 : Value) (X : World), Below W0.heap.size W0 X → NmsAt X v49 Al → wpAnyH Tryz.prog .any ops QQ (fun Z => Below W0.heap.size W0 Z) 7 (fsH 43 36 []) ({ tmps := #[s0, .slice ar nr cr, .int .i64 place, .pointer (some ⟨w.heap.size, 0, none⟩), s4, s5, s6, s7, s8, s9, s10, s11, s12, s13, s14, s15, s16, s17, s18, s19, s20, s21, s22, s23, s24, s25, s26, s27, s28, s29, s30, s31, s32, s33, s34, s35, s36, s37, s38, s39, s40, s41, s42, s43, s44, s45, s46, .bool true, s48, v49, .agg #[.slice a n c, .int .i64 win], s51, s52, s53, s54, s55, s56], defers := [] }) X := by
        as_aux_lemma =>
        intro s0 s4 s5 s6 s7 s8 s9 s10 s11 s12 s13 s14 s15 s16 s17 s18 s19 s20 s21 s22 s23 s24 s25 s26 s27 s28 s29 s30 s31 s32 s33 s34 s35 s36 s37 s38 s39 s40 s41 s42 s43 s44 s45 s46 s48 s51 s52 s53 s54 s55 s56 v49 X hW' f49
        refine wpAnyH_all (rs := [36]) (by rw [← hops]; kernel_rfl) (by simp) ?_
        intro ix hix
        simp only [List.mem_cons, List.not_mem_nil, or_false] at hix
        rcases hix with rfl
        · refine held_op hop36 (by rw [← hops]; kernel_rfl) (fun K' hK => ?_)
          go_simp
          refine (E36.out X hW').mono ?_
          rintro e Y ⟨v51, rfl, f51, hb⟩
          dsimp only
          replace f49 := f49.later hb
          replace hW' := kept_trans hW' hb
          refine hK _ _ ⟨hW', ?_⟩
          clear hK K'
          (try simp only [Act.put, List.setIfInBounds_toArray, List.set_cons_zero, List.set_cons_succ])
          rw [show (fsH 43 36 []).setIfInBounds 36 true = (fsH 43 37 []) from by kernel_rfl]
          exact H37 _ _ _ _ _ _ _ _ _ _ _ _ _ _ _ _ _ _ _ _ _ _ _ _ _ _ _ _ _ _ _ _ _ _ _ _ _ _ _ _ _ _ _ _ _ _ _ _ _ _ _ _ _ _ hW' f49 f51
      have H34_35 : ∀ (s0 s4 s5 s6 s7 s8 s9 s10 s11 s12 s13 s14 s15 s16 s17 s18 s19 s20 s21 s22 s23 s24 s25 s26 s27 s28 s29 s30 s31 s32 s33 s34 s35 s36 s37 s38 s39 s40 s41 s42 s43 s44 s45 s46 s49 s51 s52 s53 s54 s55 s56 : Value) (X : World), Below W0.heap.size W0 X → wpAnyH Tryz.prog .any ops QQ (fun Z => Below W0.heap.size W0 Z) 8 (fsH 43 34 [35]) ({ tmps := #[s0, .slice ar nr cr, .int .i64 place, .pointer (some ⟨w.heap.size, 0, none⟩), s4, s5, s6, s7, s8, s9, s10, s11, s12, s13, s14, s15, s16, s17, s18, s19, s20, s21, s22, s23, s24, s25, s26, s27, s28, s29, s30, s31, s32, s33, s34, s35, s36, s37, s38, s39, s40, s41, s42, s43, s44, s45, s46, .bool true, .agg #[.slice a n c, .int .i64 win], s49, .agg #[.slice a n c, .int .i64 win], s51, s52, s53, s54, s55, s56], defers := [] }) X := by
        as_aux_lemma =>
        intro s0 s4 s5 s6 s7 s8 s9 s10 s11 s12 s13 s14 s15 s16 s17 s18 s19 s20 s21 s22 s23 s24 s25 s26 s27 s28 s29 s30 s31 s32 s33 s34 s35 s36 s37 s38 s39 s40 s41 s42 s43 s44 s45 s46 s49 s51 s52 s53 s54 s55 s56 X hW'
        refine wpAnyH_all (rs := [34]) (by rw [← hops]; kernel_rfl) (by simp) ?_
        intro ix hix
        simp only [List.mem_cons, List.not_mem_nil, or_false] at hix
        rcases hix with rfl
        · refine held_op hop34 (by rw [← hops]; kernel_rfl) (fun K' hK => ?_)
          go_simp
          refine (E34.out X hW').mono ?_
          rintro e Y ⟨v49, rfl, f49, hb⟩
          dsimp only
          replace hW' := kept_trans hW' hb
          refine hK _ _ ⟨hW', ?_⟩
          clear hK K'
          (try simp only [Act.put, List.setIfInBounds_toArray, List.set_cons_zero, List.set_cons_succ])
          rw [show (fsH 43 34 [35]).setIfInBounds 34 true = (fsH 43 36 []) from by kernel_rfl]
          exact H36 _ _ _ _ _ _ _ _ _ _ _ _ _ _ _ _ _ _ _ _ _ _ _ _ _ _ _ _ _ _ _ _ _ _ _ _ _ _ _ _ _ _ _ _ _ _ _ _ _ _ _ _ _ hW' f49
      have H30 : ∀ (s0 s4 s5 s6 s7 s8 s9 s10 s11 s12 s13 s14 s15 s16 s17 s18 s19 s20 s21 s22 s23 s24 s25 s26 s27 s28 s29 s30 s31 s32 s33 s34 s35 s37 s38 s39 s41 s42 s43 s45 s46 s47 s48 s49 s50 s51 s52 s53 s54 s55 s56 : Value) (v40 : Value) (v44 : Value) (X : World), Below W0.heap.size W0 X → NmsAt X v40 Gd → NmsAt X v44 Gd → wpAnyH Tryz.prog .any ops QQ (fun Z => Below W0.heap.size W0 Z) 13 (fsH 43 30 []) ({ tmps := #[s0, .slice ar nr cr, .int .i64 place, .pointer (some ⟨w.heap.size, 0, none⟩), s4, s5, s6, s7, s8, s9, s10, s11, s12, s13, s14, s15, s16, s17, s18, s19, s20, s21, s22, s23, s24, s25, s26, s27, s28, s29, s30, s31, s32, s33, s34, s35, .bool true, s37, s38, s39, v40, s41, s42, s43, v44, s45, s46, s47, s48, s49, s50, s51, s52, s53, s54, s55, s56], defers := [] }) X := by
        as_aux_lemma =>
        intro s0 s4 s5 s6 s7 s8 s9 s10 s11 s12 s13 s14 s15 s16 s17 s18 s19 s20 s21 s22 s23 s24 s25 s26 s27 s28 s29 s30 s31 s32 s33 s34 s35 s37 s38 s39 s41 s42 s43 s45 s46 s47 s48 s49 s50 s51 s52 s53 s54 s55 s56 v40 v44 X hW' f40 f44
        refine wpAnyH_all (rs := [30]) (by rw [← hops]; kernel_rfl) (by simp) ?_
        intro ix hix
        simp only [List.mem_cons, List.not_mem_nil, or_false] at hix
        rcases hix with rfl
        · refine held_op hop30 (by rw [← hops]; kernel_rfl) (fun K' hK => ?_)
          go_simp
          refine (E30.out X _ _ f40 f44).mono ?_
          rintro e Y ⟨rfl, hb⟩
          dsimp only
          replace hW' := kept_trans hW' hb
          refine hK _ _ ⟨hW', ?_⟩
          clear hK K'
          (try simp only [Act.put, List.setIfInBounds_toArray, List.set_cons_zero, List.set_cons_succ])
          rw [show (fsH 43 30 []).setIfInBounds 30 true = (fsH 43 31 []) from by kernel_rfl]
          refine wpAnyH_take (i := 31) (v := .bool true) hop31 hNS (by rw [← hops]; kernel_rfl) (by rw [← hops]; kernel_rfl) (hQp _ _) (.inl ⟨(by rfl), fun wz hz => by
              have hW' := hz
              first | (go_simp; done) | (obtain ⟨z0, z1⟩ := hF.out _ hW'; go_simp)⟩) hW' ?_
          (try simp only [Act.put, List.setIfInBounds_toArray, List.set_cons_zero, List.set_cons_succ])
          rw [show (fsH 43 31 []).setIfInBounds 31 true = (fsH 43 32 []) from by kernel_rfl]
          refine wpAnyH_take (i := 32) (v := .bool true) hop32 hNS (by rw [← hops]; kernel_rfl) (by rw [← hops]; kernel_rfl) (hQp _ _) (.inl ⟨(by rfl), fun wz hz => by
              have hW' := hz
              first | (go_simp; done) | (obtain ⟨z0, z1⟩ := hF.out _ hW'; go_simp)⟩) hW' ?_
          (try simp only [Act.put, List.setIfInBounds_toArray, List.set_cons_zero, List.set_cons_succ])
          rw [show (fsH 43 32 []).setIfInBounds 32 true = (fsH 43 33 []) from by kernel_rfl]
          refine wpAnyH_take (i := 33) (v := .agg #[.slice a n c, .int .i64 win]) hop33 hNS (by rw [← hops]; kernel_rfl) (by rw [← hops]; kernel_rfl) (hQp _ _) (.inl ⟨(by rw [← hops]; kernel_rfl), fun wz hz => by
              have hW' := hz
              first | (go_simp; done) | (obtain ⟨z0, z1⟩ := hF.out _ hW'; go_simp)⟩) hW' ?_
          (try simp only [Act.put, List.setIfInBounds_toArray, List.set_cons_zero, List.set_cons_succ])
          rw [show (fsH 43 33 []).setIfInBounds 33 true = (fsH 43 34 []) from by kernel_rfl]
          refine wpAnyH_take (i := 35) (v := .agg #[.slice a n c, .int .i64 win]) hop35 hNS (by rw [← hops]; kernel_rfl) (by rw [← hops]; kernel_rfl) (hQp _ _) (.inl ⟨(by rw [← hops]; kernel_rfl), fun wz hz => by
              have hW' := hz
              first | (go_simp; done) | (obtain ⟨z0, z1⟩ := hF.out _ hW'; go_simp)⟩) hW' ?_
          (try simp only [Act.put, List.setIfInBounds_toArray, List.set_cons_zero, List.set_cons_succ])
          rw [show (fsH 43 34 []).setIfInBounds 35 true = (fsH 43 34 [35]) from by kernel_rfl]
          exact H34_35 _ _ _ _ _ _ _ _ _ _ _ _ _ _ _ _ _ _ _ _ _ _ _ _ _ _ _ _ _ _ _ _ _ _ _ _ _ _ _ _ _ _ _ _ _ _ _ _ _ _ _ _ hW' 
      have H29 : ∀ (s0 s4 s5 s6 s7 s8 s9 s10 s11 s12 s13 s14 s15 s16 s17 s18 s19 s20 s21 s22 s23 s24 s25 s26 s27 s28 s29 s30 s31 s32 s33 s34 s35 s37 s38 s39 s44 s45 s46 s47 s48 s49 s50 s51 s52 s53 s54 s55 s56 : Value) (v40 : Value) (X : World), Below W0.heap.size W0 X → NmsAt X v40 Gd → wpAnyH Tryz.prog .any ops QQ (fun Z => Below W0.heap.size W0 Z) 14 (fsH 43 29 []) ({ tmps := #[s0, .slice ar nr cr, .int .i64 place, .pointer (some ⟨w.heap.size, 0, none⟩), s4, s5, s6, s7, s8, s9, s10, s11, s12, s13, s14, s15, s16, s17, s18, s19, s20, s21, s22, s23, s24, s25, s26, s27, s28, s29, s30, s31, s32, s33, s34, s35, .bool true, s37, s38, s39, v40, .agg #[.slice a n c, .int .i64 win], .slice ar nr cr, .int .i64 place, s44, s45, s46, s47, s48, s49, s50, s51, s52, s53, s54, s55, s56], defers := [] }) X := by
        as_aux_lemma =>
        intro s0 s4 s5 s6 s7 s8 s9 s10 s11 s12 s13 s14 s15 s16 s17 s18 s19 s20 s21 s22 s23 s24 s25 s26 s27 s28 s29 s30 s31 s32 s33 s34 s35 s37 s38 s39 s44 s45 s46 s47 s48 s49 s50 s51 s52 s53 s54 s55 s56 v40 X hW' f40
        refine wpAnyH_all (rs := [29]) (by rw [← hops]; kernel_rfl) (by simp) ?_
        intro ix hix
        simp only [List.mem_cons, List.not_mem_nil, or_false] at hix
        rcases hix with rfl
        · refine held_op hop29 (by rw [← hops]; kernel_rfl) (fun K' hK => ?_)
          go_simp
          refine (E29.out X hW').mono ?_
          rintro e Y ⟨v44, rfl, f44, hb⟩
          dsimp only
          replace f40 := f40.later hb
          replace hW' := kept_trans hW' hb
          refine hK _ _ ⟨hW', ?_⟩
          clear hK K'
          (try simp only [Act.put, List.setIfInBounds_toArray, List.set_cons_zero, List.set_cons_succ])
          rw [show (fsH 43 29 []).setIfInBounds 29 true = (fsH 43 30 []) from by kernel_rfl]
          exact H30 _ _ _ _ _ _ _ _ _ _ _ _ _ _ _ _ _ _ _ _ _ _ _ _ _ _ _ _ _ _ _ _ _ _ _ _ _ _ _ _ _ _ _ _ _ _ _ _ _ _ _ _ _ _ hW' f40 f44
      have H25_26_27_28 : ∀ (s0 s4 s5 s6 s7 s8 s9 s10 s11 s12 s13 s14 s15 s16 s17 s18 s19 s20 s21 s22 s23 s24 s25 s26 s27 s28 s29 s30 s31 s32 s33 s34 s35 s40 s44 s45 s46 s47 s48 s49 s50 s51 s52 s53 s54 s55 s56 : Value) (X : World), Below W0.heap.size W0 X → wpAnyH Tryz.prog .any ops QQ (fun Z => Below W0.heap.size W0 Z) 15 (fsH 43 25 [26, 27, 28]) ({ tmps := #[s0, .slice ar nr cr, .int .i64 place, .pointer (some ⟨w.heap.size, 0, none⟩), s4, s5, s6, s7, s8, s9, s10, s11, s12, s13, s14, s15, s16, s17, s18, s19, s20, s21, s22, s23, s24, s25, s26, s27, s28, s29, s30, s31, s32, s33, s34, s35, .bool true, .agg #[.slice a n c, .int .i64 win], .slice ar nr cr, .int .i64 place, s40, .agg #[.slice a n c, .int .i64 win], .slice ar nr cr, .int .i64 place, s44, s45, s46, s47, s48, s49, s50, s51, s52, s53, s54, s55, s56], defers := [] }) X := by
        as_aux_lemma =>
        intro s0 s4 s5 s6 s7 s8 s9 s10 s11 s12 s13 s14 s15 s16 s17 s18 s19 s20 s21 s22 s23 s24 s25 s26 s27 s28 s29 s30 s31 s32 s33 s34 s35 s40 s44 s45 s46 s47 s48 s49 s50 s51 s52 s53 s54 s55 s56 X hW'
        refine wpAnyH_all (rs := [25]) (by rw [← hops]; kernel_rfl) (by simp) ?_
        intro ix hix
        simp only [List.mem_cons, List.not_mem_nil, or_false] at hix
        rcases hix with rfl
        · refine held_op hop25 (by rw [← hops]; kernel_rfl) (fun K' hK => ?_)
          go_simp
          refine (E25.out X hW').mono ?_
          rintro e Y ⟨v40, rfl, f40, hb⟩
          dsimp only
          replace hW' := kept_trans hW' hb
          refine hK _ _ ⟨hW', ?_⟩
          clear hK K'
          (try simp only [Act.put, List.setIfInBounds_toArray, List.set_cons_zero, List.set_cons_succ])
          rw [show (fsH 43 25 [26, 27, 28]).setIfInBounds 25 true = (fsH 43 29 []) from by kernel_rfl]
          exact H29 _ _ _ _ _ _ _ _ _ _ _ _ _ _ _ _ _ _ _ _ _ _ _ _ _ _ _ _ _ _ _ _ _ _ _ _ _ _ _ _ _ _ _ _ _ _ _ _ _ _ _ hW' f40
      have H18 : ∀ (s0 s4 s5 s6 s7 s8 s9 s10 s11 s12 s13 s14 s15 s16 s17 s18 s19 s20 s21 s22 s23 s24 s25 s26 s28 s29 s33 s34 s35 s36 s37 s38 s39 s40 s41 s42 s43 s44 s45 s46 s47 s48 s49 s50 s51 s52 s53 s54 s55 s56 : Value) (X : World), Below W0.heap.size W0 X → wpAnyH Tryz.prog .any ops QQ (fun Z => Below W0.heap.size W0 Z) 25 (fsH 43 18 []) ({ tmps := #[s0, .slice ar nr cr, .int .i64 place, .pointer (some ⟨w.heap.size, 0, none⟩), s4, s5, s6, s7, s8, s9, s10, s11, s12, s13, s14, s15, s16, s17, s18, s19, s20, s21, s22, s23, s24, s25, s26, .bool true, s28, s29, .bool D, .agg #[.slice a n c, .int .i64 win], .slice ar nr cr, s33, s34, s35, s36, s37, s38, s39, s40, s41, s42, s43, s44, s45, s46, s47, s48, s49, s50, s51, s52, s53, s54, s55, s56], defers := [] }) X := by
        as_aux_lemma =>
        intro s0 s4 s5 s6 s7 s8 s9 s10 s11 s12 s13 s14 s15 s16 s17 s18 s19 s20 s21 s22 s23 s24 s25 s26 s28 s29 s33 s34 s35 s36 s37 s38 s39 s40 s41 s42 s43 s44 s45 s46 s47 s48 s49 s50 s51 s52 s53 s54 s55 s56 X hW'
        refine wpAnyH_all (rs := [18]) (by rw [← hops]; kernel_rfl) (by simp) ?_
        intro ix hix
        simp only [List.mem_cons, List.not_mem_nil, or_false] at hix
        rcases hix with rfl
        · refine held_op hop18 (by rw [← hops]; kernel_rfl) (fun K' hK => ?_)
          go_simp
          refine (E18.out X hW').mono ?_
          rintro e Y ⟨rfl, hb⟩
          dsimp only
          replace hW' := kept_trans hW' hb
          refine hK _ _ ⟨hW', ?_⟩
          clear hK K'
          (try simp only [Act.put, List.setIfInBounds_toArray, List.set_cons_zero, List.set_cons_succ])
          rw [show (fsH 43 18 []).setIfInBounds 18 true = (fsH 43 19 []) from by kernel_rfl]
          refine wpAnyH_take (i := 19) (v := .bool true) hop19 hNS (by rw [← hops]; kernel_rfl) (by rw [← hops]; kernel_rfl) (hQp _ _) (.inl ⟨(by rw [← hops]; kernel_rfl), fun wz hz => by
              have hW' := hz
              first | (go_simp; done) | (obtain ⟨z0, z1⟩ := hF.out _ hW'; go_simp)⟩) hW' ?_
          (try simp only [Act.put, List.setIfInBounds_toArray, List.set_cons_zero, List.set_cons_succ])
          rw [show (fsH 43 19 []).setIfInBounds 19 true = (fsH 43 20 []) from by kernel_rfl]
          refine wpAnyH_take (i := 20) (v := .bool true) hop20 hNS (by rw [← hops]; kernel_rfl) (by rw [← hops]; kernel_rfl) (hQp _ _) (.inl ⟨(by rfl), fun wz hz => by
              have hW' := hz
              first | (go_simp; done) | (obtain ⟨z0, z1⟩ := hF.out _ hW'; go_simp)⟩) hW' ?_
          (try simp only [Act.put, List.setIfInBounds_toArray, List.set_cons_zero, List.set_cons_succ])
          rw [show (fsH 43 20 []).setIfInBounds 20 true = (fsH 43 21 []) from by kernel_rfl]
          refine wpAnyH_take (i := 21) (v := .bool true) hop21 hNS (by rw [← hops]; kernel_rfl) (by rw [← hops]; kernel_rfl) (hQp _ _) (.inl ⟨(by rfl), fun wz hz => by
              have hW' := hz
              first | (go_simp; done) | (obtain ⟨z0, z1⟩ := hF.out _ hW'; go_simp)⟩) hW' ?_
          (try simp only [Act.put, List.setIfInBounds_toArray, List.set_cons_zero, List.set_cons_succ])
          rw [show (fsH 43 21 []).setIfInBounds 21 true = (fsH 43 22 []) from by kernel_rfl]
          refine wpAnyH_take (i := 22) (v := .agg #[.slice a n c, .int .i64 win]) hop22 hNS (by rw [← hops]; kernel_rfl) (by rw [← hops]; kernel_rfl) (hQp _ _) (.inl ⟨(by rw [← hops]; kernel_rfl), fun wz hz => by
              have hW' := hz
              first | (go_simp; done) | (obtain ⟨z0, z1⟩ := hF.out _ hW'; go_simp)⟩) hW' ?_
          (try simp only [Act.put, List.setIfInBounds_toArray, List.set_cons_zero, List.set_cons_succ])
          rw [show (fsH 43 22 []).setIfInBounds 22 true = (fsH 43 23 []) from by kernel_rfl]
          refine wpAnyH_take (i := 23) (v := .slice ar nr cr) hop23 hNS (by rw [← hops]; kernel_rfl) (by rw [← hops]; kernel_rfl) (hQp _ _) (.inl ⟨(by rw [← hops]; kernel_rfl), fun wz hz => by
              have hW' := hz
              first | (go_simp; done) | (obtain ⟨z0, z1⟩ := hF.out _ hW'; go_simp)⟩) hW' ?_
          (try simp only [Act.put, List.setIfInBounds_toArray, List.set_cons_zero, List.set_cons_succ])
          rw [show (fsH 43 23 []).setIfInBounds 23 true = (fsH 43 24 []) from by kernel_rfl]
          refine wpAnyH_take (i := 24) (v := .int .i64 place) hop24 hNS (by rw [← hops]; kernel_rfl) (by rw [← hops]; kernel_rfl) (hQp _ _) (.inl ⟨(by rw [← hops]; kernel_rfl), fun wz hz => by
              have hW' := hz
              first | (go_simp; done) | (obtain ⟨z0, z1⟩ := hF.out _ hW'; go_simp)⟩) hW' ?_
          (try simp only [Act.put, List.setIfInBounds_toArray, List.set_cons_zero, List.set_cons_succ])
          rw [show (fsH 43 24 []).setIfInBounds 24 true = (fsH 43 25 []) from by kernel_rfl]
          refine wpAnyH_take (i := 26) (v := .agg #[.slice a n c, .int .i64 win]) hop26 hNS (by rw [← hops]; kernel_rfl) (by rw [← hops]; kernel_rfl) (hQp _ _) (.inl ⟨(by rw [← hops]; kernel_rfl), fun wz hz => by
              have hW' := hz
              first | (go_simp; done) | (obtain ⟨z0, z1⟩ := hF.out _ hW'; go_simp)⟩) hW' ?_
          (try simp only [Act.put, List.setIfInBounds_toArray, List.set_cons_zero, List.set_cons_succ])
          rw [show (fsH 43 25 []).setIfInBounds 26 true = (fsH 43 25 [26]) from by kernel_rfl]
          refine wpAnyH_take (i := 27) (v := .slice ar nr cr) hop27 hNS (by rw [← hops]; kernel_rfl) (by rw [← hops]; kernel_rfl) (hQp _ _) (.inl ⟨(by rw [← hops]; kernel_rfl), fun wz hz => by
              have hW' := hz
              first | (go_simp; done) | (obtain ⟨z0, z1⟩ := hF.out _ hW'; go_simp)⟩) hW' ?_
          (try simp only [Act.put, List.setIfInBounds_toArray, List.set_cons_zero, List.set_cons_succ])
          rw [show (fsH 43 25 [26]).setIfInBounds 27 true = (fsH 43 25 [26, 27]) from by kernel_rfl]
          refine wpAnyH_take (i := 28) (v := .int .i64 place) hop28 hNS (by rw [← hops]; kernel_rfl) (by rw [← hops]; kernel_rfl) (hQp _ _) (.inl ⟨(by rw [← hops]; kernel_rfl), fun wz hz => by
              have hW' := hz
              first | (go_simp; done) | (obtain ⟨z0, z1⟩ := hF.out _ hW'; go_simp)⟩) hW' ?_
          (try simp only [Act.put, List.setIfInBounds_toArray, List.set_cons_zero, List.set_cons_succ])
          rw [show (fsH 43 25 [26, 27]).setIfInBounds 28 true = (fsH 43 25 [26, 27, 28]) from by kernel_rfl]
          exact H25_26_27_28 _ _ _ _ _ _ _ _ _ _ _ _ _ _ _ _ _ _ _ _ _ _ _ _ _ _ _ _ _ _ _ _ _ _ _ _ _ _ _ _ _ _ _ _ _ _ _ _ hW' 
      have H15_16_17 : ∀ (s0 s4 s5 s6 s7 s8 s9 s10 s11 s12 s13 s14 s15 s16 s17 s18 s19 s20 s21 s22 s23 s24 s25 s26 s30 s33 s34 s35 s36 s37 s38 s39 s40 s41 s42 s43 s44 s45 s46 s47 s48 s49 s50 s51 s52 s53 s54 s55 s56 : Value) (X : World), Below W0.heap.size W0 X → wpAnyH Tryz.prog .any ops QQ (fun Z => Below W0.heap.size W0 Z) 26 (fsH 43 15 [16, 17]) ({ tmps := #[s0, .slice ar nr cr, .int .i64 place, .pointer (some ⟨w.heap.size, 0, none⟩), s4, s5, s6, s7, s8, s9, s10, s11, s12, s13, s14, s15, s16, s17, s18, s19, s20, s21, s22, s23, s24, s25, s26, .bool true, .agg #[.slice a n c, .int .i64 win], .slice ar nr cr, s30, .agg #[.slice a n c, .int .i64 win], .slice ar nr cr, s33, s34, s35, s36, s37, s38, s39, s40, s41, s42, s43, s44, s45, s46, s47, s48, s49, s50, s51, s52, s53, s54, s55, s56], defers := [] }) X := by
        as_aux_lemma =>
        intro s0 s4 s5 s6 s7 s8 s9 s10 s11 s12 s13 s14 s15 s16 s17 s18 s19 s20 s21 s22 s23 s24 s25 s26 s30 s33 s34 s35 s36 s37 s38 s39 s40 s41 s42 s43 s44 s45 s46 s47 s48 s49 s50 s51 s52 s53 s54 s55 s56 X hW'
        refine wpAnyH_all (rs := [15]) (by rw [← hops]; kernel_rfl) (by simp) ?_
        intro ix hix
        simp only [List.mem_cons, List.not_mem_nil, or_false] at hix
        rcases hix with rfl
        · refine held_op hop15 (by rw [← hops]; kernel_rfl) (fun K' hK => ?_)
          go_simp
          refine (E15.out X hW').mono ?_
          rintro e Y ⟨rfl, hb⟩
          dsimp only
          replace hW' := kept_trans hW' hb
          refine hK _ _ ⟨hW', ?_⟩
          clear hK K'
          (try simp only [Act.put, List.setIfInBounds_toArray, List.set_cons_zero, List.set_cons_succ])
          rw [show (fsH 43 15 [16, 17]).setIfInBounds 15 true = (fsH 43 18 []) from by kernel_rfl]
          exact H18 _ _ _ _ _ _ _ _ _ _ _ _ _ _ _ _ _ _ _ _ _ _ _ _ _ _ _ _ _ _ _ _ _ _ _ _ _ _ _ _ _ _ _ _ _ _ _ _ _ _ _ hW' 
      have H9 : ∀ (s0 s4 s5 s6 s7 s8 s9 s10 s11 s12 s13 s14 s15 s16 s17 s18 s19 s21 s24 s25 s26 s27 s28 s29 s30 s31 s32 s33 s34 s35 s36 s37 s38 s39 s40 s41 s42 s43 s44 s45 s46 s47 s48 s49 s50 s51 s52 s53 s54 s55 s56 : Value) (X : World), Below W0.heap.size W0 X → wpAnyH Tryz.prog .any ops QQ (fun Z => Below W0.heap.size W0 Z) 34 (fsH 43 9 []) ({ tmps := #[s0, .slice ar nr cr, .int .i64 place, .pointer (some ⟨w.heap.size, 0, none⟩), s4, s5, s6, s7, s8, s9, s10, s11, s12, s13, s14, s15, s16, s17, s18, s19, .bool true, s21, .int .i64 m, .agg #[.slice a n c, .int .i64 win], s24, s25, s26, s27, s28, s29, s30, s31, s32, s33, s34, s35, s36, s37, s38, s39, s40, s41, s42, s43, s44, s45, s46, s47, s48, s49, s50, s51, s52, s53, s54, s55, s56], defers := [] }) X := by
        as_aux_lemma =>
        intro s0 s4 s5 s6 s7 s8 s9 s10 s11 s12 s13 s14 s15 s16 s17 s18 s19 s21 s24 s25 s26 s27 s28 s29 s30 s31 s32 s33 s34 s35 s36 s37 s38 s39 s40 s41 s42 s43 s44 s45 s46 s47 s48 s49 s50 s51 s52 s53 s54 s55 s56 X hW'
        refine wpAnyH_all (rs := [9]) (by rw [← hops]; kernel_rfl) (by simp) ?_
        intro ix hix
        simp only [List.mem_cons, List.not_mem_nil, or_false] at hix
        rcases hix with rfl
        · refine held_op hop9 (by rw [← hops]; kernel_rfl) (fun K' hK => ?_)
          go_simp
          refine (E9.out X hW').mono ?_
          rintro e Y ⟨rfl, hb⟩
          dsimp only
          replace hW' := kept_trans hW' hb
          refine hK _ _ ⟨hW', ?_⟩
          clear hK K'
          (try simp only [Act.put, List.setIfInBounds_toArray, List.set_cons_zero, List.set_cons_succ])
          rw [show (fsH 43 9 []).setIfInBounds 9 true = (fsH 43 10 []) from by kernel_rfl]
          refine wpAnyH_take (i := 10) (v := .bool true) hop10 hNS (by rw [← hops]; kernel_rfl) (by rw [← hops]; kernel_rfl) (hQp _ _) (.inl ⟨(by rw [← hops]; kernel_rfl), fun wz hz => by
              have hW' := hz
              first | (go_simp; done) | (obtain ⟨z0, z1⟩ := hF.out _ hW'; go_simp)⟩) hW' ?_
          (try simp only [Act.put, List.setIfInBounds_toArray, List.set_cons_zero, List.set_cons_succ])
          rw [show (fsH 43 10 []).setIfInBounds 10 true = (fsH 43 11 []) from by kernel_rfl]
          refine wpAnyH_take (i := 11) (v := .bool true) hop11 hNS (by rw [← hops]; kernel_rfl) (by rw [← hops]; kernel_rfl) (hQp _ _) (.inl ⟨(by rfl), fun wz hz => by
              have hW' := hz
              first | (go_simp; done) | (obtain ⟨z0, z1⟩ := hF.out _ hW'; go_simp)⟩) hW' ?_
          (try simp only [Act.put, List.setIfInBounds_toArray, List.set_cons_zero, List.set_cons_succ])
          rw [show (fsH 43 11 []).setIfInBounds 11 true = (fsH 43 12 []) from by kernel_rfl]
          refine wpAnyH_take (i := 12) (v := .bool true) hop12 hNS (by rw [← hops]; kernel_rfl) (by rw [← hops]; kernel_rfl) (hQp _ _) (.inl ⟨(by rfl), fun wz hz => by
              have hW' := hz
              first | (go_simp; done) | (obtain ⟨z0, z1⟩ := hF.out _ hW'; go_simp)⟩) hW' ?_
          (try simp only [Act.put, List.setIfInBounds_toArray, List.set_cons_zero, List.set_cons_succ])
          rw [show (fsH 43 12 []).setIfInBounds 12 true = (fsH 43 13 []) from by kernel_rfl]
          refine wpAnyH_take (i := 13) (v := .agg #[.slice a n c, .int .i64 win]) hop13 hNS (by rw [← hops]; kernel_rfl) (by rw [← hops]; kernel_rfl) (hQp _ _) (.inl ⟨(by rw [← hops]; kernel_rfl), fun wz hz => by
              have hW' := hz
              first | (go_simp; done) | (obtain ⟨z0, z1⟩ := hF.out _ hW'; go_simp)⟩) hW' ?_
          (try simp only [Act.put, List.setIfInBounds_toArray, List.set_cons_zero, List.set_cons_succ])
          rw [show (fsH 43 13 []).setIfInBounds 13 true = (fsH 43 14 []) from by kernel_rfl]
          refine wpAnyH_take (i := 14) (v := .slice ar nr cr) hop14 hNS (by rw [← hops]; kernel_rfl) (by rw [← hops]; kernel_rfl) (hQp _ _) (.inl ⟨(by rw [← hops]; kernel_rfl), fun wz hz => by
              have hW' := hz
              first | (go_simp; done) | (obtain ⟨z0, z1⟩ := hF.out _ hW'; go_simp)⟩) hW' ?_
          (try simp only [Act.put, List.setIfInBounds_toArray, List.set_cons_zero, List.set_cons_succ])
          rw [show (fsH 43 14 []).setIfInBounds 14 true = (fsH 43 15 []) from by kernel_rfl]
          refine wpAnyH_take (i := 16) (v := .agg #[.slice a n c, .int .i64 win]) hop16 hNS (by rw [← hops]; kernel_rfl) (by rw [← hops]; kernel_rfl) (hQp _ _) (.inl ⟨(by rw [← hops]; kernel_rfl), fun wz hz => by
              have hW' := hz
              first | (go_simp; done) | (obtain ⟨z0, z1⟩ := hF.out _ hW'; go_simp)⟩) hW' ?_
          (try simp only [Act.put, List.setIfInBounds_toArray, List.set_cons_zero, List.set_cons_succ])
          rw [show (fsH 43 15 []).setIfInBounds 16 true = (fsH 43 15 [16]) from by kernel_rfl]
          refine wpAnyH_take (i := 17) (v := .slice ar nr cr) hop17 hNS (by rw [← hops]; kernel_rfl) (by rw [← hops]; kernel_rfl) (hQp _ _) (.inl ⟨(by rw [← hops]; kernel_rfl), fun wz hz => by
              have hW' := hz
              first | (go_simp; done) | (obtain ⟨z0, z1⟩ := hF.out _ hW'; go_simp)⟩) hW' ?_
          (try simp only [Act.put, List.setIfInBounds_toArray, List.set_cons_zero, List.set_cons_succ])
          rw [show (fsH 43 15 [16]).setIfInBounds 17 true = (fsH 43 15 [16, 17]) from by kernel_rfl]
          exact H15_16_17 _ _ _ _ _ _ _ _ _ _ _ _ _ _ _ _ _ _ _ _ _ _ _ _ _ _ _ _ _ _ _ _ _ _ _ _ _ _ _ _ _ _ _ _ _ _ _ _ _ _ hW' 
      have H7_8 : ∀ (s0 s4 s5 s6 s7 s8 s9 s10 s11 s12 s13 s14 s15 s16 s17 s18 s19 s22 s24 s25 s26 s27 s28 s29 s30 s31 s32 s33 s34 s35 s36 s37 s38 s39 s40 s41 s42 s43 s44 s45 s46 s47 s48 s49 s50 s51 s52 s53 s54 s55 s56 : Value) (X : World), Below W0.heap.size W0 X → wpAnyH Tryz.prog .any ops QQ (fun Z => Below W0.heap.size W0 Z) 35 (fsH 43 7 [8]) ({ tmps := #[s0, .slice ar nr cr, .int .i64 place, .pointer (some ⟨w.heap.size, 0, none⟩), s4, s5, s6, s7, s8, s9, s10, s11, s12, s13, s14, s15, s16, s17, s18, s19, .bool true, .agg #[.slice a n c, .int .i64 win], s22, .agg #[.slice a n c, .int .i64 win], s24, s25, s26, s27, s28, s29, s30, s31, s32, s33, s34, s35, s36, s37, s38, s39, s40, s41, s42, s43, s44, s45, s46, s47, s48, s49, s50, s51, s52, s53, s54, s55, s56], defers := [] }) X := by
        as_aux_lemma =>
        intro s0 s4 s5 s6 s7 s8 s9 s10 s11 s12 s13 s14 s15 s16 s17 s18 s19 s22 s24 s25 s26 s27 s28 s29 s30 s31 s32 s33 s34 s35 s36 s37 s38 s39 s40 s41 s42 s43 s44 s45 s46 s47 s48 s49 s50 s51 s52 s53 s54 s55 s56 X hW'
        refine wpAnyH_all (rs := [7]) (by rw [← hops]; kernel_rfl) (by simp) ?_
        intro ix hix
        simp only [List.mem_cons, List.not_mem_nil, or_false] at hix
        rcases hix with rfl
        · refine held_op hop7 (by rw [← hops]; kernel_rfl) (fun K' hK => ?_)
          go_simp
          refine (E7.out X hW').mono ?_
          rintro e Y ⟨rfl, hb⟩
          dsimp only
          replace hW' := kept_trans hW' hb
          refine hK _ _ ⟨hW', ?_⟩
          clear hK K'
          (try simp only [Act.put, List.setIfInBounds_toArray, List.set_cons_zero, List.set_cons_succ])
          rw [show (fsH 43 7 [8]).setIfInBounds 7 true = (fsH 43 9 []) from by kernel_rfl]
          exact H9 _ _ _ _ _ _ _ _ _ _ _ _ _ _ _ _ _ _ _ _ _ _ _ _ _ _ _ _ _ _ _ _ _ _ _ _ _ _ _ _ _ _ _ _ _ _ _ _ _ _ _ _ hW' 
      have H4 : ∀ (s0 s4 s5 s6 s7 s8 s9 s10 s11 s12 s13 s14 s15 s17 s19 s20 s21 s22 s23 s24 s25 s26 s27 s28 s29 s30 s31 s32 s33 s34 s35 s36 s37 s38 s39 s40 s41 s42 s43 s44 s45 s46 s47 s48 s49 s50 s51 s52 s53 s54 s55 s56 : Value) (v16 : Value) (v18 : Value) (X : World), Below W0.heap.size W0 X → OwnRows X 0 v16 R → OwnRows X 0 v18 R → wpAnyH Tryz.prog .any ops QQ (fun Z => Below W0.heap.size W0 Z) 39 (fsH 43 4 []) ({ tmps := #[s0, .slice ar nr cr, .int .i64 place, .pointer (some ⟨w.heap.size, 0, none⟩), s4, s5, s6, s7, s8, s9, s10, s11, s12, s13, s14, s15, v16, s17, v18, s19, s20, s21, s22, s23, s24, s25, s26, s27, s28, s29, s30, s31, s32, s33, s34, s35, s36, s37, s38, s39, s40, s41, s42, s43, s44, s45, s46, s47, s48, s49, s50, s51, s52, s53, s54, s55, s56], defers := [] }) X := by
        as_aux_lemma =>
        intro s0 s4 s5 s6 s7 s8 s9 s10 s11 s12 s13 s14 s15 s17 s19 s20 s21 s22 s23 s24 s25 s26 s27 s28 s29 s30 s31 s32 s33 s34 s35 s36 s37 s38 s39 s40 s41 s42 s43 s44 s45 s46 s47 s48 s49 s50 s51 s52 s53 s54 s55 s56 v16 v18 X hW' f16 f18
        refine wpAnyH_all (rs := [4]) (by rw [← hops]; kernel_rfl) (by simp) ?_
        intro ix hix
        simp only [List.mem_cons, List.not_mem_nil, or_false] at hix
        rcases hix with rfl
        · refine held_op hop4 (by rfl) (fun K' hK => ?_)
          go_simp
          refine (E4.out X _ _ f16 f18).mono ?_
          rintro e Y ⟨rfl, hb⟩
          dsimp only
          replace hW' := kept_trans hW' hb
          refine hK _ _ ⟨hW', ?_⟩
          clear hK K'
          (try simp only [Act.put, List.setIfInBounds_toArray, List.set_cons_zero, List.set_cons_succ])
          rw [show (fsH 43 4 []).setIfInBounds 4 true = (fsH 43 5 []) from by kernel_rfl]
          refine wpAnyH_take (i := 5) (v := .bool true) hop5 hNS (by rw [← hops]; kernel_rfl) (by rw [← hops]; kernel_rfl) (hQp _ _) (.inl ⟨(by rfl), fun wz hz => by
              have hW' := hz
              first | (go_simp; done) | (obtain ⟨z0, z1⟩ := hF.out _ hW'; go_simp)⟩) hW' ?_
          (try simp only [Act.put, List.setIfInBounds_toArray, List.set_cons_zero, List.set_cons_succ])
          rw [show (fsH 43 5 []).setIfInBounds 5 true = (fsH 43 6 []) from by kernel_rfl]
          refine wpAnyH_take (i := 6) (v := .agg #[.slice a n c, .int .i64 win]) hop6 hNS (by rw [← hops]; kernel_rfl) (by rw [← hops]; kernel_rfl) (hQp _ _) (.inl ⟨(by rw [← hops]; kernel_rfl), fun wz hz => by
              have hW' := hz
              first | (go_simp; done) | (obtain ⟨z0, z1⟩ := hF.out _ hW'; go_simp)⟩) hW' ?_
          (try simp only [Act.put, List.setIfInBounds_toArray, List.set_cons_zero, List.set_cons_succ])
          rw [show (fsH 43 6 []).setIfInBounds 6 true = (fsH 43 7 []) from by kernel_rfl]
          refine wpAnyH_take (i := 8) (v := .agg #[.slice a n c, .int .i64 win]) hop8 hNS (by rw [← hops]; kernel_rfl) (by rw [← hops]; kernel_rfl) (hQp _ _) (.inl ⟨(by rw [← hops]; kernel_rfl), fun wz hz => by
              have hW' := hz
              first | (go_simp; done) | (obtain ⟨z0, z1⟩ := hF.out _ hW'; go_simp)⟩) hW' ?_
          (try simp only [Act.put, List.setIfInBounds_toArray, List.set_cons_zero, List.set_cons_succ])
          rw [show (fsH 43 7 []).setIfInBounds 8 true = (fsH 43 7 [8]) from by kernel_rfl]
          exact H7_8 _ _ _ _ _ _ _ _ _ _ _ _ _ _ _ _ _ _ _ _ _ _ _ _ _ _ _ _ _ _ _ _ _ _ _ _ _ _ _ _ _ _ _ _ _ _ _ _ _ _ _ _ hW' 
      have H3 : ∀ (s0 s4 s5 s6 s7 s8 s9 s10 s11 s12 s13 s14 s15 s18 s19 s20 s21 s22 s23 s24 s25 s26 s27 s28 s29 s30 s31 s32 s33 s34 s35 s36 s37 s38 s39 s40 s41 s42 s43 s44 s45 s46 s47 s48 s49 s50 s51 s52 s53 s54 s55 s56 : Value) (v16 : Value) (X : World), Below W0.heap.size W0 X → OwnRows X 0 v16 R → wpAnyH Tryz.prog .any ops QQ (fun Z => Below W0.heap.size W0 Z) 40 (fsH 43 3 []) ({ tmps := #[s0, .slice ar nr cr, .int .i64 place, .pointer (some ⟨w.heap.size, 0, none⟩), s4, s5, s6, s7, s8, s9, s10, s11, s12, s13, s14, s15, v16, .agg #[.slice a n c, .int .i64 win], s18, s19, s20, s21, s22, s23, s24, s25, s26, s27, s28, s29, s30, s31, s32, s33, s34, s35, s36, s37, s38, s39, s40, s41, s42, s43, s44, s45, s46, s47, s48, s49, s50, s51, s52, s53, s54, s55, s56], defers := [] }) X := by
        as_aux_lemma =>
        intro s0 s4 s5 s6 s7 s8 s9 s10 s11 s12 s13 s14 s15 s18 s19 s20 s21 s22 s23 s24 s25 s26 s27 s28 s29 s30 s31 s32 s33 s34 s35 s36 s37 s38 s39 s40 s41 s42 s43 s44 s45 s46 s47 s48 s49 s50 s51 s52 s53 s54 s55 s56 v16 X hW' f16
        refine wpAnyH_all (rs := [3]) (by rw [← hops]; kernel_rfl) (by simp) ?_
        intro ix hix
        simp only [List.mem_cons, List.not_mem_nil, or_false] at hix
        rcases hix with rfl
        · refine held_op hop3 (by rfl) (fun K' hK => ?_)
          go_simp
          refine (E3.out X hW').mono ?_
          rintro e Y ⟨v18, rfl, f18, hb⟩
          dsimp only
          replace f16 := f16.later hb
          replace hW' := kept_trans hW' hb
          refine hK _ _ ⟨hW', ?_⟩
          clear hK K'
          (try simp only [Act.put, List.setIfInBounds_toArray, List.set_cons_zero, List.set_cons_succ])
          rw [show (fsH 43 3 []).setIfInBounds 3 true = (fsH 43 4 []) from by kernel_rfl]
          exact H4 _ _ _ _ _ _ _ _ _ _ _ _ _ _ _ _ _ _ _ _ _ _ _ _ _ _ _ _ _ _ _ _ _ _ _ _ _ _ _ _ _ _ _ _ _ _ _ _ _ _ _ _ _ _ _ hW' f16 f18
      have H1_2 : ∀ (s0 s4 s5 s6 s7 s8 s9 s10 s11 s12 s13 s14 s16 s18 s19 s20 s21 s22 s23 s24 s25 s26 s27 s28 s29 s30 s31 s32 s33 s34 s35 s36 s37 s38 s39 s40 s41 s42 s43 s44 s45 s46 s47 s48 s49 s50 s51 s52 s53 s54 s55 s56 : Value) (X : World), Below W0.heap.size W0 X → wpAnyH Tryz.prog .any ops QQ (fun Z => Below W0.heap.size W0 Z) 41 (fsH 43 1 [2]) ({ tmps := #[s0, .slice ar nr cr, .int .i64 place, .pointer (some ⟨w.heap.size, 0, none⟩), s4, s5, s6, s7, s8, s9, s10, s11, s12, s13, s14, .agg #[.slice a n c, .int .i64 win], s16, .agg #[.slice a n c, .int .i64 win], s18, s19, s20, s21, s22, s23, s24, s25, s26, s27, s28, s29, s30, s31, s32, s33, s34, s35, s36, s37, s38, s39, s40, s41, s42, s43, s44, s45, s46, s47, s48, s49, s50, s51, s52, s53, s54, s55, s56], defers := [] }) X := by
        as_aux_lemma =>
        intro s0 s4 s5 s6 s7 s8 s9 s10 s11 s12 s13 s14 s16 s18 s19 s20 s21 s22 s23 s24 s25 s26 s27 s28 s29 s30 s31 s32 s33 s34 s35 s36 s37 s38 s39 s40 s41 s42 s43 s44 s45 s46 s47 s48 s49 s50 s51 s52 s53 s54 s55 s56 X hW'
        refine wpAnyH_all (rs := [1]) (by rw [← hops]; kernel_rfl) (by simp) ?_
        intro ix hix
        simp only [List.mem_cons, List.not_mem_nil, or_false] at hix
        rcases hix with rfl
        · refine held_op hop1 (by rfl) (fun K' hK => ?_)
          go_simp
          refine (E1.out X hW').mono ?_
          rintro e Y ⟨v16, rfl, f16, hb⟩
          dsimp only
          replace hW' := kept_trans hW' hb
          refine hK _ _ ⟨hW', ?_⟩
          clear hK K'
          (try simp only [Act.put, List.setIfInBounds_toArray, List.set_cons_zero, List.set_cons_succ])
          rw [show (fsH 43 1 [2]).setIfInBounds 1 true = (fsH 43 3 []) from by kernel_rfl]
          exact H3 _ _ _ _ _ _ _ _ _ _ _ _ _ _ _ _ _ _ _ _ _ _ _ _ _ _ _ _ _ _ _ _ _ _ _ _ _ _ _ _ _ _ _ _ _ _ _ _ _ _ _ _ _ _ hW' f16
      have hsz : ops.size = 43 := by rw [← hops]; rfl
      rw [hsz]
      rw [show Array.replicate 43 false = (fsH 43 0 []) from by rfl]
      refine wpAnyH_take (i := 0) (v := .agg #[.slice a n c, .int .i64 win]) hop0 hNS (by rw [← hops]; kernel_rfl) (by rw [← hops]; kernel_rfl) (hQp _ _) (.inl ⟨(by rfl), fun wz hz => by
          have hW' := hz
          first | (go_simp; done) | (obtain ⟨z0, z1⟩ := hF.out _ hW'; go_simp)⟩) hW' ?_
      (try simp only [Act.put, List.setIfInBounds_toArray, List.set_cons_zero, List.set_cons_succ])
      rw [show (fsH 43 0 []).setIfInBounds 0 true = (fsH 43 1 []) from by kernel_rfl]
      refine wpAnyH_take (i := 2) (v := .agg #[.slice a n c, .int .i64 win]) hop2 hNS (by rw [← hops]; kernel_rfl) (by rw [← hops]; kernel_rfl) (hQp _ _) (.inl ⟨(by rfl), fun wz hz => by
          have hW' := hz
          first | (go_simp; done) | (obtain ⟨z0, z1⟩ := hF.out _ hW'; go_simp)⟩) hW' ?_
      (try simp only [Act.put, List.setIfInBounds_toArray, List.set_cons_zero, List.set_cons_succ])
      rw [show (fsH 43 1 []).setIfInBounds 2 true = (fsH 43 1 [2]) from by kernel_rfl]
      exact H1_2 _ _ _ _ _ _ _ _ _ _ _ _ _ _ _ _ _ _ _ _ _ _ _ _ _ _ _ _ _ _ _ _ _ _ _ _ _ _ _ _ _ _ _ _ _ _ _ _ _ _ _ _ _ hW' 
end Go.Proofs.YtfkdgaeiiejjlaaGreat.Tree
