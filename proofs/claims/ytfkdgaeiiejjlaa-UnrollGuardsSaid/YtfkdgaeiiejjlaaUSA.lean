/-
  Several texts in one: UV UW UY UG US.
-/
import Derived.Test.YtfkdgaeiiejjlaaUZA
import Derived.Test.YtfkdgaeiiejjlaaUQ
import Derived.Test.YtfkdgaeiiejjlaaCZQ
import Derived.Test.YtfkdgaeiiejjlaaUTA
import Derived.Deep.RegionHeld3
import Derived.Deep.RegionLaw
import Derived.Deep.RegionWith
import Derived.Deep.CutRange
import Derived.Deep.CutBlock
import Derived.StillTailTactics
/- Append of a row to a row of the function's own, which tells too where the row lies behind it: where it lay, or in new memory; rows that grow and are copied (the document's own longer). -/
namespace Go.Proofs.Ytfkdgaeiiejjlaa.Tree
open Go.ChangeShapes Go.WideShapes Go.ChangeAt Go.RowKit
set_option linter.unusedVariables false
set_option linter.unusedSimpArgs false
set_option maxRecDepth 100000
attribute [local go_sem] Oper.semAt_some
section
variable {P : Program} {w : World} {base : Nat} {e : TypeId} {size : Nat}
theorem run_append_blk (base : Nat) (t ty e : TypeId) (i : TypeInfo) (z : Value) (size bytes : Nat) (ht : P.underlying t = some (.slice e)) (hi : P.info? e = some i) (hz : i.zero = some z)
    (hsize : i.size = size) (hby : i.bytes = bytes) (hzs : z.cells.size = size) (hsz : 0 < size)
    (v : Value) (n : Nat) (xs : List Value) (hown : w.ownsRow base e size v n xs)
    (a : Option Addr) (m c : Nat) (news : List Value) (hl : news.length = m * size) (hnews : CellsAt w a news) (h1 : ∀ u ∈ news, u.oneCell' = true)
    (h63 : n + m ≤ maxLen) (hbytes : (n + m) * bytes ≤ 140737488355328) (hbase : base ≤ w.heap.size) :
    ∃ v' w', (Builtin.append_ #[t, t] ty #[v, .slice a m c]).run P w = .ok v' w' ∧ w'.ownsRow base e size v' (n + m) (xs ++ news) ∧ w.grownBy w' v.ownBlock ∧ ∀ g, v'.ownBlock = some g → v.ownBlock = some g ∨ g = w.heap.size := by
  obtain ⟨v', w', hr, h2, h3⟩ := run_append_cells (P := P) (w := w) base t ty e i z size bytes ht hi hz hsize hby hzs hsz v n xs hown a m c news hl hnews h1 h63 hbytes hbase
  refine ⟨v', w', hr, h2, h3, ?_⟩
  cases a with
  | none =>
    have := run_append_noslice (P := P) (w := w) base t ty e i size ht hi v n xs hown c
    have hm : m = 0 := by
      rcases hnews with rfl | ⟨b, o, h, _⟩
      · have hl0 : m * size = 0 := hl.symm
        rcases Nat.mul_eq_zero.1 hl0 with h | h
        · exact h
        · omega
      · cases h
    subst hm
    rw [this] at hr
    cases hr
    intro g hg; exact .inl hg
  | some ad =>
    have hc : ∀ j u, news[j]? = some u → w.cell? (ad.add j) = some u := by
      rcases hnews with rfl | ⟨b, o, h, hc⟩
      · intro j u hj; simp at hj
      · cases h
        intro j u hj
        have := hc j u hj
        by_cases h0 : j = 0
        · subst h0; simpa [Addr.add] using this
        · simpa [Addr.add, h0] using this
    subst hsize
    subst hby
    have hsmall : n + m ≤ 9223372036854775807 := by simp only [maxLen] at h63; omega
    rcases hown.2 with ⟨rfl, rfl⟩ | ⟨g, cap, cur, rfl, hbg, hg, hnc, hcm, hcs, htake⟩
    · by_cases hm : m = 0
      · subst hm
        have hn : news = [] := List.eq_nil_of_length_eq_zero (by simpa using hl)
        subst hn
        have : (Builtin.append_ #[t, t] ty #[.slice none 0 0, .slice (some ad) 0 c]).run P w = .ok (.slice none 0 0) w := by
          simp [Builtin.append_, run_underlying ht, sizeOf, typeInfo, hi, Builtin.lenOf, Builtin.firstCells, loadCells, loadCellsFrom]
        rw [this] at hr
        cases hr
        intro g hg; exact .inl hg
      · have hr' := run_append_nil (P := P) w t ty e i z ht hi hz ad m c news hl hc (by omega) (by omega) (by have hb := hbytes; simp only [Nat.zero_add] at hb; omega)
        rw [hr'] at hr
        cases hr
        intro g hg; right; simpa [Value.ownBlock] using hg.symm
    · by_cases hroom : n + m ≤ cap
      · have hfit : n * i.size + news.length ≤ cur.size := by rw [hl, hcs, ← Nat.add_mul]; exact Nat.mul_le_mul_right _ hroom
        have hr' := run_append_room (P := P) w t ty e i ht hi g n cap cur hg ad m c news hl hc h1 hroom hfit
        rw [hr'] at hr
        cases hr
        intro g' hg'; left; simpa [Value.ownBlock] using hg'
      · have holds : ∀ j u, xs[j]? = some u → w.cell? ((⟨g, 0, none⟩ : Addr).add j) = some u := hown.cells (g := g) rfl
        have hr' := run_append_grow (P := P) w t ty e i z ht hi hz ⟨g, 0, none⟩ n cap xs hown.1 holds ad m c news hl hc (by omega) (by omega) (growslice_fits (by omega) hbytes)
        rw [hr'] at hr
        cases hr
        intro g' hg'; right; simpa [Value.ownBlock] using hg'.symm
theorem wp_append_blk {o : Oper} {a : Act} {K : Act → World → Prop} {Q : Exit → Act → World → Prop} (s x : Operand) (t : TypeId)
    (ho : o.op = .call { callee := .builtin .append, args := #[s, x], argTypes := #[t, t] })
    (base : Nat) (e : TypeId) (i : TypeInfo) (z : Value) (size bytes : Nat) (ht : P.underlying t = some (.slice e)) (hi : P.info? e = some i) (hz : i.zero = some z)
    (hsize : i.size = size) (hby : i.bytes = bytes) (hzs : z.cells.size = size) (hsz : 0 < size)
    (v : Value) (n : Nat) (xs : List Value) (hs : a.eval s = v) (hown : w.ownsRow base e size v n xs)
    (ad : Option Addr) (m c : Nat) (news : List Value) (hx : a.eval x = .slice ad m c) (hl : news.length = m * size) (hnews : CellsAt w ad news) (h1 : ∀ u ∈ news, u.oneCell' = true)
    (h63 : n + m ≤ maxLen) (hbytes : (n + m) * bytes ≤ 140737488355328) (hbase : base ≤ w.heap.size)
    (h : ∀ v' w', w'.ownsRow base e size v' (n + m) (xs ++ news) → w.grownBy w' v.ownBlock → (∀ g, v'.ownBlock = some g → v.ownBlock = some g ∨ g = w.heap.size) → K (a.put o.dst v') w') : Oper.wp P o a w K Q := by
  obtain ⟨v', w', hr, h2, h3, h4⟩ := run_append_blk (P := P) (w := w) base t o.type e i z size bytes ht hi hz hsize hby hzs hsz v n xs hown ad m c news hl hnews h1 h63 hbytes hbase
  unfold Oper.wp
  simp [execOp, ho, resolve, invoke, builtin, hs, hx, hr, Result.andThen]
  exact h v' w' h2 h3 h4
theorem wpList_append_blk {ops : Array Oper} {rest : List Oper} {o : Oper} {a : Act} {Q : Exit → Act → World → Prop} (hgd : o.guard = none) (s x : Operand) (t : TypeId)
    (ho : o.op = .call { callee := .builtin .append, args := #[s, x], argTypes := #[t, t] })
    (base : Nat) (e : TypeId) (i : TypeInfo) (z : Value) (size bytes : Nat) (ht : P.underlying t = some (.slice e)) (hi : P.info? e = some i) (hz : i.zero = some z)
    (hsize : i.size = size) (hby : i.bytes = bytes) (hzs : z.cells.size = size) (hsz : 0 < size)
    (v : Value) (n : Nat) (xs : List Value) (hs : a.eval s = v) (hown : w.ownsRow base e size v n xs)
    (ad : Option Addr) (m c : Nat) (news : List Value) (hx : a.eval x = .slice ad m c) (hl : news.length = m * size) (hnews : CellsAt w ad news) (h1 : ∀ u ∈ news, u.oneCell' = true)
    (h63 : n + m ≤ maxLen) (hbytes : (n + m) * bytes ≤ 140737488355328) (hbase : base ≤ w.heap.size)
    (h : ∀ v' w', w'.ownsRow base e size v' (n + m) (xs ++ news) → w.grownBy w' v.ownBlock → (∀ g, v'.ownBlock = some g → v.ownBlock = some g ∨ g = w.heap.size) → wpList P ops Q rest (a.put o.dst v') w') : wpList P ops Q (o :: rest) a w :=
  wpList_plain hgd fun _ hK => wp_append_blk s x t ho base e i z size bytes ht hi hz hsize hby hzs hsz v n xs hs hown ad m c news hx hl hnews h1 h63 hbytes hbase fun v' w' h2 h3 h4 => hK _ _ (h v' w' h2 h3 h4)
/-- A row in another block is left as it was. -/
theorem row_other {W W' : World} {base : Nat} {e : TypeId} {size n : Nat} {u : Value} {xs : List Value} {row : Option Nat} (h : W.ownsRow base e size u n xs) (hg : W.grownBy W' row) (hne : ∀ g, u.ownBlock = some g → row ≠ some g) : W'.ownsRow base e size u n xs := by
  refine ⟨h.1, ?_⟩
  rcases h.2 with h0 | ⟨g, cap, cur, rfl, hb, hh, h3⟩
  · exact .inl h0
  · refine .inr ⟨g, cap, cur, rfl, hb, ?_, h3⟩
    rw [hg.block g (Array.getElem?_eq_some_iff.1 hh).1 (hne g rfl).symm]
    exact hh
end
/-- Rows that are being made: out has those of F, the row that grows is q; the blocks are apart. -/
def LgI (N : Nat) (W0 : World) (F : List (List Int)) (us : List Value) (out : Value) (q : List Int) (row : Value) (W : World) : Prop :=
  W.ownsRow N 25 1 out F.length us ∧ EachOwn W N us F ∧ W.ownsRow N 3 1 row q.length (ints q) ∧ (∀ u ∈ us, ∀ g, u.ownBlock = some g → row.ownBlock ≠ some g) ∧ Below N W0 W
theorem EachOwn.lt {W : World} {N : Nat} {us : List Value} {F : List (List Int)} (h : EachOwn W N us F) (hl : us.length = F.length) : ∀ u ∈ us, ∀ g, u.ownBlock = some g → g < W.heap.size := by
  intro u hu g hg
  obtain ⟨k, hk, e⟩ := List.getElem_of_mem hu
  exact ((h k u F[k] (by simp [← e, hk]) (by simp [← hl, hk])).lt g hg).2
theorem own_len {W : World} {N e : Nat} {v : Value} {n : Nat} {us : List Value} (h : W.ownsRow N e 1 v n us) : us.length = n := by have := h.1; simpa using this
/-- A row in memory that lies below is as it was behind an append to what is new. -/
theorem row_new {W w1 : World} {o : Obj} {N e s n : Nat} {u : Value} {xs : List Value} (h : W.ownsRow N e s u n xs) (hg : (W.alloc o).grownBy w1 (some W.heap.size)) : w1.ownsRow N e s u n xs :=
  row_other (h.alloc o) hg (fun g hg' e => by cases e; exact absurd (h.lt _ hg').2 (Nat.lt_irrefl _))
theorem LgI.start {N : Nat} {W0 W w1 : World} {F : List (List Int)} {us : List Value} {out row : Value} {q : List Int} {o : Obj} (hN : N ≤ W0.heap.size) (h1 : W.ownsRow N 25 1 out F.length us) (h2 : EachOwn W N us F) (hb : Below N W0 W)
    (hown : w1.ownsRow W.heap.size 3 1 row q.length (ints q)) (hg : (W.alloc o).grownBy w1 (some W.heap.size)) : LgI N W0 F us out q row w1 := by
  have hNW : N ≤ W.heap.size := Nat.le_trans hN hb.size
  refine ⟨row_new h1 hg, fun i u r hu hr => row_new (h2 i u r hu hr) hg, row_base hown hNW, fun u hu g hg1 hg2 => ?_, (hb.alloc hNW o).grown hg (by simp; omega) (fun k e => by cases e; exact hNW)⟩
  have e1 := h2.lt (own_len h1) u hu g hg1
  have e2 := (hown.lt g hg2).1
  omega
theorem LgI.grow {N : Nat} {W0 W w1 : World} {F : List (List Int)} {us : List Value} {out row row' : Value} {q : List Int} {x : Int} {o : Obj} (hN : N ≤ W0.heap.size) (h : LgI N W0 F us out q row W)
    (hown : w1.ownsRow N 3 1 row' (q ++ [x]).length (ints (q ++ [x]))) (hg : (W.alloc o).grownBy w1 row.ownBlock) (hblk : ∀ g, row'.ownBlock = some g → row.ownBlock = some g ∨ g = (W.alloc o).heap.size) : LgI N W0 F us out (q ++ [x]) row' w1 := by
  obtain ⟨h1, h2, h3, h4, hb⟩ := h
  have hNW : N ≤ W.heap.size := Nat.le_trans hN hb.size
  have hmem : ∀ (i : Nat) (u : Value), us[i]? = some u → u ∈ us := fun i u hu => List.mem_of_getElem? hu
  refine ⟨row_kept (h1.alloc o) hg (own_is (h3.alloc o) 25 (by decide)), fun i u r hu hr => row_other ((h2 i u r hu hr).alloc o) hg (h4 u (hmem i u hu)), hown, fun u hu g hg1 hg2 => ?_, (hb.alloc hNW o).grown hg (by simp; omega) (own_ge h3)⟩
  rcases hblk g hg2 with e | e
  · exact h4 u hu g hg1 e
  · have := h2.lt (own_len h1) u hu g hg1
    simp at e; omega
theorem LgI.mid {N : Nat} {W0 W w2 : World} {F : List (List Int)} {us : List Value} {out row : Value} {q : List Int} {o : Obj} (hN : N ≤ W0.heap.size) (h : LgI N W0 F us out q row W) (hg : (W.alloc o).grownBy w2 (some W.heap.size)) : LgI N W0 F us out q row w2 := by
  obtain ⟨h1, h2, h3, h4, hb⟩ := h
  have hNW : N ≤ W.heap.size := Nat.le_trans hN hb.size
  exact ⟨row_new h1 hg, fun i u r hu hr => row_new (h2 i u r hu hr) hg, row_new h3 hg, h4, (hb.alloc hNW o).grown hg (by simp; omega) (fun k e => by cases e; exact hNW)⟩
theorem LgI.put {N : Nat} {W0 W w2 w4 : World} {F : List (List Int)} {us : List Value} {out out' row cv : Value} {q : List Int} {o : Obj} (hN : N ≤ W0.heap.size) (h0 : LgI N W0 F us out q row W) (h : LgI N W0 F us out q row w2) (hc : w2.ownsRow W.heap.size 3 1 cv q.length (ints q))
    (hown : w4.ownsRow N 25 1 out' (F.length + 1) (us ++ [cv])) (hg : (w2.alloc o).grownBy w4 out.ownBlock) : LgI N W0 (F ++ [q]) (us ++ [cv]) out' q row w4 := by
  have hNW : N ≤ W.heap.size := Nat.le_trans hN h0.2.2.2.2.size
  have hlt := fun g hg => (h0.2.2.1.lt g hg).2
  obtain ⟨h1, h2, h3, h4, hb⟩ := h
  have hNW2 : N ≤ w2.heap.size := Nat.le_trans hN hb.size
  have K : ∀ {u : Value} {n : Nat} {xs : List Value}, w2.ownsRow N 3 1 u n xs → w4.ownsRow N 3 1 u n xs := fun hu => row_kept (hu.alloc o) hg (own_is (h1.alloc o) 3 (by decide))
  have hl := own_len h1
  refine ⟨by simpa using hown, fun i u r hu hr => ?_, K h3, fun u hu g hg1 hg2 => ?_, (hb.alloc hNW2 o).grown hg (by simp; omega) (own_ge h1)⟩
  · by_cases hi : i < F.length
    · rw [List.getElem?_append_left (by omega)] at hu
      rw [List.getElem?_append_left hi] at hr
      exact K (h2 i u r hu hr)
    · rw [List.getElem?_append_right (by omega)] at hu
      rw [List.getElem?_append_right (by omega)] at hr
      have e : i - us.length = 0 := by
        have := (List.getElem?_eq_some_iff.1 hu).1
        simp at this; omega
      have e2 : i - F.length = 0 := by omega
      rw [e] at hu
      rw [e2] at hr
      simp at hu hr
      subst hu hr
      exact K (row_base hc hNW)
  · rcases List.mem_append.1 hu with hu | hu
    · exact h4 u hu g hg1 hg2
    · obtain rfl := List.mem_singleton.1 hu
      have e1 := (hc.lt g hg1).1
      have e2 := hlt g hg2
      omega
/-- The rows of one more, once so many of it are told. -/
def lgF (R : List (List Int)) (i : Int) (mn c k : Nat) (r : List Int) (b : Nat) : List (List Int) := furL (R.take k) i mn c ++ (List.range b).map fun j => r ++ List.replicate (mn + j) i
theorem lgF_zero (R : List (List Int)) (i : Int) (mn c k : Nat) (r : List Int) : lgF R i mn c k r 0 = furL (R.take k) i mn c := by simp [lgF]
theorem lgF_full {R : List (List Int)} {i : Int} {mn c k : Nat} {r : List Int} (h : R[k]? = some r) : lgF R i mn c k r c = furL (R.take (k + 1)) i mn c := by
  unfold lgF furL
  rw [List.take_add_one, h, List.flatMap_append]
  simp
theorem lgF_succ (R : List (List Int)) (i : Int) (mn c k : Nat) (r : List Int) (b : Nat) : lgF R i mn c k r (b + 1) = lgF R i mn c k r b ++ [r ++ List.replicate (mn + b) i] := by
  unfold lgF
  rw [List.range_succ, List.map_append, List.append_assoc]
  rfl
theorem lgF_len (R : List (List Int)) (i : Int) (mn c k : Nat) (r : List Int) (b : Nat) (hk : k ≤ R.length) : (lgF R i mn c k r b).length = k * c + b := by
  unfold lgF
  rw [List.length_append, furL_len]
  simp [Nat.min_eq_left hk]
theorem cells_lit (W : World) (cs : List Value) (t : TypeId) : CellsAt (W.alloc (.cells cs.toArray t)) (some ⟨W.heap.size, 0, none⟩) cs := by
  refine .inr ⟨W.heap.size, 0, rfl, fun j u hj => ?_⟩
  have := World.alloc_heap_new W (.cells cs.toArray t)
  simp only [World.cell?, this, Nat.zero_add]
  simpa using hj
theorem lit_none (W : World) : (W.alloc (.cells #[] 3)).ownsRow W.heap.size 3 1 (.slice (some ⟨W.heap.size, 0, none⟩) 0 0) 0 [] := by
  have := World.ownsRow_lit (base := W.heap.size) (e := 3) (size := 1) W #[] 0 (by omega) (by unfold maxLen; omega) rfl
  simpa using this
theorem lcell {W W' : World} {a : Addr} {v : Value} (h : W.cell? a = some v) (hb : Below W.heap.size W W') : W'.cell? a = some v := bcell hb (World.block_lt_of_cell? W _ h) h
set_option maxHeartbeats 4000000 in
theorem rlonger_any (rv sv : Value) (vs : List Value) (R : List (List Int)) (s : Sp) (i : Int) (mn c : Nat) (hmn : s.min = mn) (hc : s.max + 1 = mn + c) (hmn1 : 1 ≤ mn) (h4 : mn + c ≤ 4) (hR : R.length ≤ 1000000) (hRr : ∀ r ∈ R, r.length ≤ 1000) (w : World) (h : RowsV w rv vs R) :
    Calls Try.prog 30 #[rv, .int .i64 i, spV s sv] w fun e w' => ∃ v, e = .returned v ∧ OwnRows w' w.heap.size v (furL R i mn c) ∧ Below w.heap.size w w' := by
  obtain ⟨⟨ar, cr, rfl, -⟩, -⟩ := id h
  obtain ⟨m, hm⟩ : ∃ m, R.length = m := ⟨_, rfl⟩
  rw [hm] at h hR ⊢
  have hB0 := kept_new w (.cells #[.bool s.neg, .int .i64 s.kind, .int .i64 s.min, .int .i64 s.max, .bool s.strict, sv] 32)
  have hsb := SpBox.new w s sv
  obtain ⟨i0, hi, hz0, hz1, hz2⟩ := info_parts Try.info3
  obtain ⟨j0, hj, hy0, hy1, hy2⟩ := info_parts Try.info25
  replace hi := Lib.hid hi
  replace hj := Lib.hid hj
  obtain ⟨mx, hmx⟩ : ∃ mx, s.max = mx := ⟨_, rfl⟩
  rw [hmx] at hc
  replace hmn := Lib.hid hmn
  replace hmx := Lib.hid hmx
  go_enter Try.func30, Try.ntmps30
  go_wp2
  generalize w.alloc (.cells #[.bool s.neg, .int .i64 s.kind, .int .i64 s.min, .int .i64 s.max, .bool s.strict, sv] 32) = W0 at *
  have hO0 : OwnRows W0 W0.heap.size (.slice none 0 0) (furL (R.take 0) i mn c) := ⟨[], by simpa [furL] using World.ownsRow_nil _ _ _ _, fun i u r hu => by simp at hu⟩
  have hBw := Lib.hid (fun X (hX : Below W0.heap.size W0 X) => (kept_trans hB0 hX : Below w.heap.size w X))
  have hSb := Lib.hid (fun X (hX : Below W0.heap.size W0 X) => (hsb.later hX : SpBox w.heap.size s sv X))
  have hsz := hB0.size
  clear hB0 hsb
  replace h := Lib.hid h
  replace hm := Lib.hid hm
  go_loopw [7, 8] (fun u7 u8 wr => ∃ k : Nat, k ≤ m ∧ u8 = .int .i64 k ∧ Hid (OwnRows wr W0.heap.size u7 (furL (R.take k) i mn c)) ∧ Hid (Below W0.heap.size W0 wr)) (fun _ u8 _ => m - (intOf u8).toNat)
  case atStart => exact ⟨0, Nat.zero_le _, rfl, Lib.hid hO0, Lib.hid (Below.refl _ _)⟩
  case round =>
    clear hO0
    obtain ⟨k, hk, rfl, hO, hB⟩ := hrel
    by_cases hlt : k < m
    · have hlti : (k : Int) < m := by omega
      obtain ⟨r, hr⟩ : ∃ r, R[k]? = some r := ⟨_, List.getElem?_eq_getElem (by have := hm.out; omega)⟩
      have hr1000 := hRr r (List.mem_of_getElem? hr)
      obtain ⟨us0, h1, h2⟩ := hO.out
      have hV := h.out.later (hBw.out _ hB.out)
      obtain ⟨u, hu, mu⟩ := hV.at hr
      obtain ⟨b, o, rfl, q1⟩ := hV.cell hu
      obtain ⟨au, cu, rfl, hcu⟩ := mu
      obtain ⟨l, hl⟩ : ∃ l, r.length = l := ⟨_, rfl⟩
      rw [hl] at q1 hr1000
      have q2 := lcell q1 (kept_new wr (.cells #[] 3))
      have hcu' := hcu.later (kept_new wr (.cells #[] 3))
      have hlit := lit_none wr
      have hst := Lib.hid (fun (w1 : World) (row : Value) (hown : w1.ownsRow wr.heap.size 3 1 row r.length (ints r)) (hg : (wr.alloc (.cells #[] 3)).grownBy w1 (some wr.heap.size)) => (LgI.start (Nat.le_refl _) h1 h2 hB.out hown hg))
      have hr' := Lib.hid hr
      clear hV hu hcu h1 h2 hO hr hlt
      go_wp2_with (at_builtin; refine wpList_append_blk rfl (.tmp 17) (.tmp 21) 25 rfl wr.heap.size 3 i0 (.int .i64 0) 1 8 Try.underlying25 hi.out hz0 hz1 hz2 rfl (by decide) _ 0 [] rfl hlit au l cu (ints r) rfl (by simp [hl]) hcu' (ints_one r) (by unfold maxLen; omega) (by omega) (by simp) ?_; intro row w1 hown hgrow hblk; rw [Nat.zero_add, List.nil_append, ← hl] at hown; replace hst := hst.out _ _ hown hgrow; clear hown hgrow hblk)
      have hlg : LgI W0.heap.size W0 (lgF R i mn c k r 0) us0 u7 r row w1 := by rw [lgF_zero]; exact hst
      replace hlg := Lib.hid hlg
      clear hst q1 q2 hcu' hlit
      go_loopw [7, 9, 10] (fun u7 u9 u10 wr => ∃ (n : Nat) (us : List Value), n ≤ mx ∧ u10 = .int .i64 ((n : Int) + 1) ∧ Hid (LgI W0.heap.size W0 (lgF R i mn c k r (n + 1 - mn)) us u7 (r ++ List.replicate n i) u9 wr)) (fun _ _ u10 _ => mn + c - (intOf u10).toNat)
      case atStart => exact ⟨0, us0, by omega, rfl, by rw [show 0 + 1 - mn = 0 by omega]; simpa using hlg⟩
      case round =>
        clear hlg
        obtain ⟨n, us, hn, rfl, hI⟩ := hrel
        have hBn := hI.out.2.2.2.2
        obtain ⟨-, -, z2, z3, -, -⟩ := (hSb.out _ hBn).cells
        rw [hmn.out] at z2
        rw [hmx.out] at z3
        by_cases hnm : (n : Int) + 1 ≤ mx
        · have hFl : (lgF R i mn c k r (n + 1 - mn)).length ≤ 5000000 := by
            rw [lgF_len _ _ _ _ _ _ _ (by have := hm.out; omega)]
            have : k * c ≤ 1000000 * 4 := Nat.mul_le_mul (by omega) (by omega)
            omega
          obtain ⟨Fl, hFe⟩ : ∃ Fl, (lgF R i mn c k r (n + 1 - mn)).length = Fl := ⟨_, rfl⟩
          rw [hFe] at hFl
          have h3 := hI.out.2.2.1
          have hgr := Lib.hid (fun (w1 : World) (row' : Value) hown hg hblk => @LgI.grow _ _ _ w1 _ _ _ _ row' _ i (.cells #[.int .i64 i] 3) (Nat.le_refl _) hI.out hown hg hblk)
          obtain ⟨q, hq⟩ : ∃ q, r ++ List.replicate n i = q := ⟨_, rfl⟩
          have hql : q.length ≤ 1010 := by rw [← hq]; simp; omega
          have hq2 : r ++ List.replicate (n + 1) i = q ++ [i] := by rw [← hq, List.append_assoc, ← List.replicate_succ']
          rw [hq] at h3 hgr
          obtain ⟨lq, hlq⟩ : ∃ lq, q.length = lq := ⟨_, rfl⟩
          rw [hlq] at h3 hql
          have hlt := cells_lit wr [.int .i64 i] 3
          have h3' := h3.alloc (.cells #[.int .i64 i] 3)
          have hszw : W0.heap.size ≤ (wr.alloc (.cells #[.int .i64 i] 3)).heap.size := by have := hBn.size; simp; omega
          clear z2 h3 hI
          obtain ⟨q', hq'⟩ : ∃ q', q ++ [i] = q' := ⟨_, rfl⟩
          have hints : ints q' = ints q ++ [.int .i64 i] := by rw [← hq']; simp [ints]
          have hlq' : q'.length = lq + 1 := by rw [← hq']; simp [hlq]
          rw [hq'] at hgr hq2
          replace hq := Lib.hid hq
          replace hq2 := Lib.hid hq2
          replace hq' := Lib.hid hq'
          replace hlq := Lib.hid hlq
          replace hFe := Lib.hid hFe
          replace hints := Lib.hid hints
          replace hBn := Lib.hid hBn
          by_cases hge : (mn : Int) ≤ (n : Int) + 1
          · have hFs : lgF R i mn c k r (n + 1 + 1 - mn) = lgF R i mn c k r (n + 1 - mn) ++ [q'] := by
              rw [show n + 1 + 1 - mn = (n + 1 - mn) + 1 by omega, lgF_succ, show mn + (n + 1 - mn) = n + 1 by omega, hq2.out]
            replace hFs := Lib.hid hFs
            go_wp2_with (first
              | (at_builtin; refine wpList_append_blk rfl (.tmp 29) (.tmp 31) 25 rfl W0.heap.size 3 i0 (.int .i64 0) 1 8 Try.underlying25 hi.out hz0 hz1 hz2 rfl (by decide) u9 lq (ints q) rfl h3' (some ⟨wr.heap.size, 0, none⟩) 1 1 [.int .i64 i] rfl rfl hlt (by simp [Value.oneCell']) (by unfold maxLen; omega) (by omega) hszw ?_; intro row2 w2 hown hgrow hblk; have hI2 := hgr.out w2 row2 (by rw [hints.out, hlq']; exact hown) hgrow hblk; obtain ⟨a2, c2, rfl, hc2⟩ := cells_of_row hI2.2.2.1; rw [hlq'] at hI2 ⊢; obtain ⟨-, -, z2, -, -, -⟩ := (hSb.out _ hI2.2.2.2.2).cells; rw [hmn.out] at z2; have hlit := lit_none w2; have hc2' := hc2.later (kept_new w2 (.cells #[] 3)); replace hI2 := Lib.hid hI2; clear hown hgrow hblk hc2 hlt h3')
              | (at_builtin; refine wpList_append_blk rfl (.tmp 38) (.tmp 39) 25 rfl w2.heap.size 3 i0 (.int .i64 0) 1 8 Try.underlying25 hi.out hz0 hz1 hz2 rfl (by decide) _ 0 [] rfl hlit a2 (lq + 1) c2 (ints q') rfl (by simp [hlq']) hc2' (ints_one q') (by unfold maxLen; omega) (by omega) (by simp) ?_; intro cv w3 hownc hgrow hblk; rw [Nat.zero_add, List.nil_append] at hownc; have hI3 := LgI.mid (Nat.le_refl _) hI2.out hgrow; obtain ⟨a4, c4, rfl, -⟩ := cells_of_row hownc; have hh1 := hI3.1.alloc (.cells #[.slice a4 (lq + 1) c4] 25); rw [hFe.out] at hh1; have hcl := cells_lit w3 [.slice a4 (lq + 1) c4] 25; have hszw3 : W0.heap.size ≤ (w3.alloc (.cells #[.slice a4 (lq + 1) c4] 25)).heap.size := (by have := hI3.2.2.2.2.size; simp; omega); replace hI3 := Lib.hid hI3; replace hownc := Lib.hid hownc; clear hgrow hblk z2 hlit hc2')
              | (at_builtin; refine wpList_append_blk rfl (.tmp 37) (.tmp 41) 28 rfl W0.heap.size 25 j0 (.slice none 0 0) 1 24 Try.underlying28 hj.out hy0 hy1 hy2 rfl (by decide) u7 Fl us rfl hh1 (some ⟨w3.heap.size, 0, none⟩) 1 1 [.slice a4 (lq + 1) c4] rfl rfl hcl (by simp [Value.oneCell']) (by unfold maxLen; omega) (by omega) hszw3 ?_; intro out2 w4 hown4 hgrow4 hblk4; have hI4 := LgI.put (Nat.le_refl _) hI2.out hI3.out (by rw [hlq']; exact hownc.out) (by rw [hFe.out]; exact hown4) hgrow4; replace hI4 := Lib.hid hI4; clear hown4 hgrow4 hblk4 hcl hh1))
            go_roundw
            case rel => exact ⟨n + 1, _, hnm, by go_num, by rw [hFs.out, hq2.out]; exact hI4⟩
            case measure => simp [intOf]; omega
          · have hFs : lgF R i mn c k r (n + 1 + 1 - mn) = lgF R i mn c k r (n + 1 - mn) := by
              rw [show n + 1 + 1 - mn = 0 by omega, show n + 1 - mn = 0 by omega]
            replace hFs := Lib.hid hFs
            go_wp2_with (at_builtin; refine wpList_append_blk rfl (.tmp 29) (.tmp 31) 25 rfl W0.heap.size 3 i0 (.int .i64 0) 1 8 Try.underlying25 hi.out hz0 hz1 hz2 rfl (by decide) u9 lq (ints q) rfl h3' (some ⟨wr.heap.size, 0, none⟩) 1 1 [.int .i64 i] rfl rfl hlt (by simp [Value.oneCell']) (by unfold maxLen; omega) (by omega) hszw ?_; intro row2 w2 hown hgrow hblk; have hI2 := hgr.out w2 row2 (by rw [hints.out, hlq']; exact hown) hgrow hblk; obtain ⟨-, -, z2, -, -, -⟩ := (hSb.out _ hI2.2.2.2.2).cells; rw [hmn.out] at z2; replace hI2 := Lib.hid hI2; clear hown hgrow hblk hlt h3')
            go_roundw
            case rel => exact ⟨n + 1, _, hnm, by go_num, by rw [hFs.out, hq2.out]; exact hI2⟩
            case measure => simp [intOf]; omega
        · have hnx : (n : Int) = mx := by omega
          have hnc : n + 1 - mn = c := by omega
          have hout := hI.out.1
          have heach := hI.out.2.1
          rw [hnc, lgF_full hr'.out] at hout heach
          have hO' : OwnRows wr W0.heap.size u7 (furL (R.take (k + 1)) i mn c) := ⟨us, hout, heach⟩
          replace hO' := Lib.hid hO'
          replace hBn := Lib.hid hBn
          clear hI hout heach z2
          go_wp2_with fail
          go_roundw
          case rel => exact ⟨k + 1, by omega, by go_num, hO', hBn⟩
          case measure => simp [intOf]; omega
    · obtain rfl : k = m := by omega
      have hO' := hO.out
      rw [List.take_of_length_le (by rw [hm.out]; exact Nat.le_refl _)] at hO'
      have hBx := hBw.out _ hB.out
      replace hO' := Lib.hid (hO'.base hsz)
      replace hBx := Lib.hid hBx
      clear hO hB
      go_wp2_with fail
      go_ret
      exact ⟨_, rfl, hO'.out, hBx.out⟩
end Go.Proofs.Ytfkdgaeiiejjlaa.Tree
/- The document's own Rows. -/
namespace Go.Proofs.Ytfkdgaeiiejjlaa.Tree
open Go.ChangeShapes Go.WideShapes Go.ChangeAt Go.RowKit
set_option linter.unusedVariables false
set_option linter.unusedSimpArgs false
set_option maxRecDepth 100000
attribute [local go_sem] Oper.semAt_some
theorem take_snoc {ss : List Sp} {i : Nat} {s : Sp} (h : ss[i]? = some s) : ss.take (i + 1) = ss.take i ++ [s] := by
  rw [List.take_add_one, h]; rfl
theorem rowsP_take {ss : List Sp} {i : Nat} {s : Sp} (h : ss[i]? = some s) : rowsP (ss.take (i + 1)) = if s.neg = true then rowsP (ss.take i) else stepR (rowsP (ss.take i)) (i, s) := by
  have hi := (List.getElem?_eq_some_iff.1 h).1
  rw [take_snoc h]
  unfold rowsP
  rw [posS_append, List.length_take, Nat.min_eq_left (by omega), Nat.zero_add]
  split
  · rename_i hn
    have : posS [s] i = [] := by simp [posS, hn]
    rw [this, List.append_nil]
  · rename_i hn
    have : posS [s] i = [(i, s)] := by simp [posS, hn]
    rw [this, List.foldl_append]
    rfl
theorem GoodP.take_bd {ss : List Sp} (h : GoodP ss) (i : Nat) : (rowsP (ss.take i)).length ≤ 81 ∧ ∀ r ∈ rowsP (ss.take i), r.length ≤ 12 := by
  have h4 : (posS (ss.take i) 0).length ≤ 4 := by
    have h1 := h.few
    have h2 : posS ss 0 = posS (ss.take i) 0 ++ posS (ss.drop i) (0 + (ss.take i).length) := by rw [← posS_append, List.take_append_drop]
    rw [h2, List.length_append] at h1
    omega
  have hP : ∀ x ∈ posS (ss.take i) 0, 1 ≤ x.2.min ∧ x.2.min ≤ x.2.max ∧ x.2.max ≤ 3 := fun x hx => by
    obtain ⟨-, h2, h3⟩ := posS_mem hx
    exact h.pos _ (List.mem_of_mem_take (List.mem_of_getElem? h2)) h3
  obtain ⟨h1, h2⟩ := rows_bd (posS (ss.take i) 0) hP [[]] 1 0 (by simp) (by simp)
  have h3 : 3 ^ (posS (ss.take i) 0).length ≤ 3 ^ 4 := Nat.pow_le_pow_right (by omega) h4
  unfold rowsP
  exact ⟨by omega, fun r hr => by have := h2 r hr; omega⟩
theorem may_R {v : Value} {L : List (Sp × Value)} (win : Int) (hg : great (L.map (·.1)) = false) (w : World) (h : SpsL w v L) :
    Calls Try.prog 10 #[ptV v win] w fun e w' => e = .returned (.bool (mayB (L.map (·.1)) win)) ∧ Below w.heap.size w w' := by
  obtain ⟨hS, h40, h20⟩ := Small.of_great hg
  obtain ⟨a, c, rfl⟩ := h.lit rfl
  have hl : L.length ≤ 1000 := Nat.le_trans (by simpa using h40) (by omega)
  exact refMay_L a _ c win L hS.short w rfl hl (fun x hx => h20 x.1 (List.mem_map_of_mem hx)) h
set_option maxHeartbeats 2000000 in
theorem refRows_R {v : Value} {L : List (Sp × Value)} (win : Int) (hg : great (L.map (·.1)) = false) (w : World) (h : SpsL w v L) :
    Calls Try.prog 16 #[ptV v win] w fun e w' => ∃ u, e = .returned u ∧ OwnRows w' w.heap.size u (rowsR (L.map (·.1)) win) ∧ Below w.heap.size w w' := by
  have hb := kept_new w (.cells #[v, .int .i64 win] 24)
  have hp : PK w v win (w.alloc (.cells #[v, .int .i64 win] 24)) := ⟨PtBox.new w _ _, hb⟩
  have c0 := hp.1.c0
  have c1 := hp.1.c1
  have hM := may_R win hg _ (h.later hb)
  obtain ⟨n, hn⟩ : ∃ n, L.length = n := ⟨_, rfl⟩
  obtain ⟨a, c, rfl⟩ := h.lit hn
  obtain ⟨m, hmm⟩ : ∃ m, mayB (L.map (·.1)) win = m := ⟨_, rfl⟩
  unfold rowsR
  rw [hmm] at hM ⊢
  cases m with
  | false =>
    replace hM := Lib.hid hM
    replace hb := Lib.hid hb
    clear hp h hg hn hmm
    go_enter Try.func16, Try.ntmps16
    go_wp2_with ((with_reducible refine hM.out.mono ?_); rintro e w2 ⟨rfl, hb2⟩)
    go_ret
    exact ⟨_, rfl, ⟨[], World.ownsRow_nil _ _ _ _, fun i u r hu => by simp at hu⟩, kept_trans hb.out hb2⟩
  | true =>
    have hG := may_good hmm
    obtain ⟨ss, hss⟩ : ∃ ss, L.map (·.1) = ss := ⟨_, rfl⟩
    have hat := Lib.hid (fun (i : Nat) (s : Sp) (sv : Value) (hx : L[i]? = some (s, sv)) => show (L.map (·.1))[i]? = some s by simp [hx])
    rw [hss] at hG hat ⊢
    have hsl : ss.length = n := by rw [← hss]; simpa using hn
    have hn41 : n ≤ 41 := by have h1 := (Small.of_great hg).2.1; simp at h1; omega
    replace hM := Lib.hid hM
    replace h := Lib.hid h
    replace hn := Lib.hid hn
    replace hsl := Lib.hid hsl
    clear hb hg hmm hss
    go_enter Try.func16, Try.ntmps16
    go_wp2_with ((with_reducible refine hM.out.mono ?_); rintro e w2 ⟨rfl, hb2⟩)
    replace hp := hp.later hb2
    have hk := kept_new w2 (.cells #[.slice none 0 0] 25)
    have hP0 := Lib.hid (hp.later hk)
    have hO0 : OwnRows (w2.alloc (.cells #[.slice none 0 0] 25)) w.heap.size (.slice (some ⟨w2.heap.size, 0, none⟩) 1 1) (rowsP (ss.take 0)) := ⟨[.slice none 0 0], World.ownsRow_lit (base := w.heap.size) (e := 25) (size := 1) w2 #[.slice none 0 0] 1 hp.2.size (by unfold maxLen; omega) rfl, fun i u r hu hr => by
      have hi := (List.getElem?_eq_some_iff.1 hu).1
      obtain rfl : i = 0 := by simp at hi; exact hi
      simp at hu; subst hu
      rw [show rowsP (ss.take 0) = [[]] from rfl] at hr
      have : r = [] := by simpa using hr.symm
      subst this
      simpa using World.ownsRow_nil _ _ _ _⟩
    replace hO0 := Lib.hid hO0
    clear hp hk c0 c1 hM hb2
    go_loopw [3, 4] (fun u3 u4 wr => ∃ i : Nat, i ≤ n ∧ u4 = .int .i64 i ∧ Hid (OwnRows wr w.heap.size u3 (rowsP (ss.take i))) ∧ Hid (PK w (.slice a n c) win wr)) (fun _ u4 _ => n - (intOf u4).toNat)
    case atStart => exact ⟨0, Nat.zero_le _, rfl, hO0, hP0⟩
    case round =>
      clear hO0 hP0
      obtain ⟨i, hi, rfl, hO, hP⟩ := hrel
      have c0 := hP.out.1.c0
      have c1 := hP.out.1.c1
      by_cases hlt : i < n
      · have hlti : (i : Int) < n := by omega
        obtain ⟨⟨s, sv⟩, hx⟩ : ∃ x, L[i]? = some x := ⟨_, List.getElem?_eq_getElem (by have := hn.out; omega)⟩
        obtain ⟨b, o, rfl, z0, z1, z2, z3, z4, z5, hv⟩ := (h.out.later hP.out.2).step hn.out hx
        obtain ⟨ml, hml⟩ : ∃ ml, s.cs.length = ml := ⟨_, rfl⟩
        obtain ⟨asv, csv, rfl⟩ := hv.lit hml
        have hxs := hat.out i s _ hx
        have hT := rowsP_take hxs
        have hpos := hG.pos s (List.mem_of_getElem? hxs)
        have hbd := hG.take_bd i
        clear hv hml hx
        obtain ⟨au, nu, cu, rfl⟩ := hO.out.lit
        obtain ⟨neg, hneg⟩ : ∃ g, s.neg = g := ⟨_, rfl⟩
        rw [hneg] at z0 hT hpos
        cases neg with
        | true =>
          rw [if_pos rfl] at hT
          replace hT := Lib.hid hT
          clear hneg hpos hbd
          go_wp2_with fail
          go_roundw
          case rel => exact ⟨i + 1, hlt, by go_num, by rw [hT.out]; exact hO, hP⟩
          case measure => simp [intOf]; omega
        | false =>
          rw [if_neg (by simp)] at hT
          obtain ⟨p1, p2, p3⟩ := hpos rfl
          obtain ⟨vs, hV⟩ := hO.out.at
          have hL := rlonger_any (.slice au nu cu) (.slice asv ml csv) vs (rowsP (ss.take i)) s i s.min.toNat (s.max + 1 - s.min).toNat (by omega) (by omega) (by omega) (by omega) (by omega) (fun r hr => by have := hbd.2 r hr; omega) wr hV
          rw [show furL (rowsP (ss.take i)) i s.min.toNat (s.max + 1 - s.min).toNat = rowsP (ss.take (i + 1)) from hT.symm] at hL
          simp only [spV, hneg] at hL
          replace hL := Lib.hid hL
          replace hT := Lib.hid hT
          replace hneg := Lib.hid hneg
          clear hpos hbd hV hO
          go_wp2_with ((with_reducible refine hL.out.mono ?_); rintro e w3 ⟨u, rfl, ho3, hb3⟩)
          go_roundw
          case rel => exact ⟨i + 1, hlt, by go_num, Lib.hid (ho3.base hP.out.2.size), Lib.hid (hP.out.later hb3)⟩
          case measure => simp [intOf]; omega
      · obtain rfl : i = n := by omega
        have hO' := hO.out
        rw [List.take_of_length_le (by rw [hsl.out]; exact Nat.le_refl _)] at hO'
        replace hO' := Lib.hid hO'
        clear hO hG
        go_wp2_with fail
        go_ret
        exact ⟨_, rfl, by simpa using hO'.out, hP.out.2⟩
end Go.Proofs.Ytfkdgaeiiejjlaa.Tree
/- Pure facts of UnrollGuards: what a row leaves out, place by place; how often each step's number was told. -/
namespace Go.Proofs.Ytfkdgaeiiejjlaa.Tree
open Go.ChangeShapes Go.WideShapes Go.ChangeAt Go.RowKit
set_option linter.unusedVariables false
set_option linter.unusedSimpArgs false
set_option maxRecDepth 100000
/-- A row from a step on: between two numbers of it stand negative steps alone. -/
def Cov (ss : List Sp) : Nat → List Int → Prop
  | f, [] => ∀ (j : Nat) (s : Sp), f ≤ j → ss[j]? = some s → s.neg = true
  | f, y :: q => ∃ (i : Nat) (s : Sp), y = i ∧ ss[i]? = some s ∧ s.neg = false ∧ (i + 1 = f ∨ f ≤ i ∧ ∀ (j : Nat) (t : Sp), f ≤ j → j < i → ss[j]? = some t → t.neg = true) ∧ Cov ss (i + 1) q
theorem cov_back {ss : List Sp} {i : Nat} {s : Sp} (hs : ss[i]? = some s) (hn : s.neg = true) {q : List Int} (h : Cov ss (i + 1) q) : Cov ss i q := by
  cases q with
  | nil =>
    intro j t hj ht
    by_cases e : j = i
    · subst e; rw [hs] at ht; cases ht; exact hn
    · exact h j t (by omega) ht
  | cons y q =>
    obtain ⟨k, t, e, ht, hp, hk, hq⟩ := h
    refine ⟨k, t, e, ht, hp, .inr ?_, hq⟩
    rcases hk with hk | ⟨hk, hb⟩
    · obtain rfl : k = i := by omega
      rw [hs] at ht; cases ht
      rw [hn] at hp; cases hp
    · refine ⟨by omega, fun j u hj hjk hu => ?_⟩
      by_cases e : j = i
      · subst e; rw [hs] at hu; cases hu; exact hn
      · exact hb j u (by omega) hjk hu
theorem cov_rep {ss : List Sp} {i : Nat} {s : Sp} (hs : ss[i]? = some s) (hn : s.neg = false) {q : List Int} (h : Cov ss (i + 1) q) (m : Nat) : Cov ss (i + 1) (List.replicate m (i : Int) ++ q) := by
  induction m with
  | zero => simpa using h
  | succ m ih => exact ⟨i, s, rfl, hs, hn, .inl rfl, ih⟩
theorem cov_of (ss : List Sp) : ∀ (r : List Sp) (i : Nat) (q : List Int), ss.drop i = r → (∀ s ∈ r, s.neg = false → 1 ≤ s.min) → restL r i q = true → Cov ss i q := by
  intro r
  induction r with
  | nil =>
    intro i q hd _ h
    obtain rfl : q = [] := by simpa [restL] using h
    intro j s hj hs
    have h1 := (List.getElem?_eq_some_iff.1 hs).1
    have h2 := congrArg List.length hd
    simp at h2
    omega
  | cons s r ih =>
    intro i q hd hm h
    have hs : ss[i]? = some s := by
      have := congrArg (fun l => l[0]?) hd
      simpa [List.getElem?_drop] using this
    have hd' : ss.drop (i + 1) = r := by rw [← List.drop_drop, hd]; rfl
    rw [restL, Bool.and_eq_true] at h
    have hc := ih (i + 1) _ hd' (fun t ht => hm t (List.mem_cons_of_mem _ ht)) h.2
    cases hn : s.neg with
    | true =>
      have h0 : leadN q i = 0 := by have := h.1; simp [stepOk, hn] at this; exact_mod_cast this
      rw [h0, List.drop_zero] at hc
      exact cov_back hs hn hc
    | false =>
      have h1 : 1 ≤ leadN q i := by
        have h2 := h.1
        have h3 := hm s List.mem_cons_self hn
        simp [stepOk, hn] at h2
        omega
      rw [leadN_split q i]
      obtain ⟨m, hm⟩ : ∃ m, leadN q i = m + 1 := ⟨leadN q i - 1, by omega⟩
      rw [hm] at hc ⊢
      rw [List.replicate_succ, List.cons_append]
      exact ⟨i, s, rfl, hs, hn, .inr ⟨Nat.le_refl _, fun j t h1 h2 => by omega⟩, cov_rep hs hn hc m⟩
theorem GoodP.cov {ss : List Sp} (h : GoodP ss) {q : List Int} (hq : q ∈ rowsP ss) : Cov ss 0 q := by
  refine cov_of ss ss 0 q rfl (fun s hs hn => (h.pos s hs hn).1) ?_
  rw [restL_is ss 0 q h.rising]
  exact (h.mem q).1 hq
/-- From which step on nothing was told yet, behind k places of a row. -/
def frL (q : List Int) (k : Nat) : Nat := if k = 0 then 0 else (q[k - 1]?.getD 0).toNat + 1
theorem cov_drop {ss : List Sp} {q : List Int} (h : Cov ss 0 q) : ∀ k, k ≤ q.length → Cov ss (frL q k) (q.drop k) := by
  intro k
  induction k with
  | zero => intro _; simpa [frL] using h
  | succ k ih =>
    intro hk
    have h1 := ih (by omega)
    obtain ⟨y, hy⟩ : ∃ y, q[k]? = some y := ⟨_, List.getElem?_eq_getElem (by omega)⟩
    rw [List.drop_eq_getElem_cons (by omega)] at h1
    obtain ⟨i, s, e, -, -, -, h2⟩ := h1
    have : frL q (k + 1) = i + 1 := by
      unfold frL
      rw [if_neg (by omega), Nat.add_sub_cancel, List.getElem?_eq_getElem (by omega), e]
      simp
    rw [this]; exact h2
/-- How often each number was told, once all below f were gone through. -/
def seenL (ss : List Sp) (f : Nat) : List Int := (List.range ss.length).map fun j => if j < f ∧ (stepA ss j).neg = true then 1 else 0
theorem seenL_len (ss : List Sp) (f : Nat) : (seenL ss f).length = ss.length := by simp [seenL]
theorem seenL_at (ss : List Sp) (f : Nat) {j : Nat} (hj : j < ss.length) : (seenL ss f)[j]? = some (if j < f ∧ (stepA ss j).neg = true then 1 else 0) := by
  simp [seenL, hj]
theorem seenL_zero (ss : List Sp) : seenL ss 0 = List.replicate ss.length 0 := by
  refine List.ext_getElem (by simp [seenL]) fun i h1 h2 => by simp [seenL]
theorem seenL_pos {ss : List Sp} {f : Nat} (h : (stepA ss f).neg = false) : seenL ss (f + 1) = seenL ss f := by
  unfold seenL
  refine List.map_congr_left fun j _ => ?_
  by_cases e : j = f
  · subst e; simp [h]
  · have : (j < f + 1) ↔ (j < f) := by omega
    simp only [this]
theorem seenL_neg {ss : List Sp} {f : Nat} (hf : f < ss.length) (h : (stepA ss f).neg = true) : seenL ss (f + 1) = (seenL ss f).set f 1 := by
  refine List.ext_getElem (by simp [seenL]) fun j h1 h2 => ?_
  rw [List.getElem_set]
  have hj : j < ss.length := by simpa [seenL] using h1
  simp only [seenL, List.getElem_map, List.getElem_range]
  by_cases e : f = j
  · subst e; simp [h]
  · have : (j < f + 1) ↔ (j < f) := by omega
    simp only [this, if_neg e]
theorem seenL_next {ss : List Sp} {f : Nat} (hf : f < ss.length) : (seenL ss f)[f]? = some 0 := by
  rw [seenL_at ss f hf]; simp
/-- What the walk over one place of a row leans on: f the first step that was not told, i the place's step. -/
theorem place_at {ss : List Sp} {win : Int} (hm : mayB ss win = true) {q : List Int} (hq : q ∈ rowsP ss) {k : Nat} {y : Int} (hk : q[k]? = some y) :
    ∃ i d : Nat, y = i ∧ i < ss.length ∧ guardsL ss win q k = fromL (frL q k : Nat) d ∧ (∀ x, x < d → (stepA ss (frL q k + x)).neg = true ∧ frL q k + x < i) ∧ seenL ss (frL q k + d) = seenL ss (frL q (k + 1)) ∧
      (1 ≤ k → q[k - 1]? = some ((frL q k : Int) - 1)) ∧ (k = 0 → d = 0) := by
  have hG := may_good hm
  have hkl := (List.getElem?_eq_some_iff.1 hk).1
  have hc := cov_drop (hG.cov hq) k (by omega)
  rw [List.drop_eq_getElem_cons hkl] at hc
  obtain ⟨i, s, e, hs, hn, hi, -⟩ := hc
  have ey : y = i := by rw [List.getElem?_eq_getElem hkl] at hk; cases hk; exact e
  have hil := (List.getElem?_eq_some_iff.1 hs).1
  have hA : stepA ss i = s := stepA_of hs
  have hf1 : frL q (k + 1) = i + 1 := by
    unfold frL
    rw [if_neg (by omega), Nat.add_sub_cancel, hk, ey]
    simp
  have hsp : seenL ss (i + 1) = seenL ss i := seenL_pos (by rw [hA]; exact hn)
  have hisP : isP ss win q = true := by
    unfold isP
    rw [hm, (hG.mem q).1 hq]; rfl
  have hprev : 1 ≤ k → ∃ p : Nat, q[k - 1]? = some (p : Int) ∧ frL q k = p + 1 := by
    intro h1
    have hc' := cov_drop (hG.cov hq) (k - 1) (by omega)
    rw [List.drop_eq_getElem_cons (by omega)] at hc'
    obtain ⟨p, t, e', -, -, -, -⟩ := hc'
    refine ⟨p, by rw [List.getElem?_eq_getElem (by omega), e'], ?_⟩
    unfold frL
    rw [if_neg (by omega), List.getElem?_eq_getElem (by omega), e']
    simp
  by_cases h0 : k = 0
  · subst h0
    have hf0 : frL q 0 = 0 := rfl
    rw [hf0] at hi ⊢
    have hi0 : i = 0 := by
      rcases hi with hi | ⟨-, hb⟩
      · omega
      · rcases Nat.eq_zero_or_pos i with h | h
        · exact h
        · obtain ⟨t, ht⟩ : ∃ t, ss[0]? = some t := ⟨_, List.getElem?_eq_getElem (by omega)⟩
          have h1 := hb 0 t (Nat.le_refl _) h ht
          have h2 := hG.first t ht
          rw [h2] at h1; cases h1
    subst hi0
    refine ⟨0, 0, ey, hil, ?_, fun x hx => absurd hx (Nat.not_lt_zero _), ?_, fun h => absurd h (by omega), fun _ => rfl⟩
    · simp [guardsL, fromL]
    · rw [hf1]; exact hsp.symm
  · obtain ⟨p, hp, hfp⟩ := hprev (by omega)
    refine ⟨i, i - frL q k, ey, hil, ?_, fun x hx => ?_, ?_, fun _ => by rw [hp, hfp]; simp, fun h => absurd h h0⟩
    · unfold guardsL
      rw [if_pos ⟨by omega, by omega, hisP⟩]
      have e1 : ((k : Int) - 1).toNat = k - 1 := by omega
      rw [e1, hp, Int.toNat_natCast, hk]
      simp only [Option.getD_some]
      unfold betL
      rw [hfp, ey]
      congr 1
      omega
    · rcases hi with hi | ⟨-, hb⟩
      · omega
      · have hlt : frL q k + x < i := by omega
        obtain ⟨t, ht⟩ : ∃ t, ss[frL q k + x]? = some t := ⟨_, List.getElem?_eq_getElem (by omega)⟩
        exact ⟨by rw [stepA_of ht]; exact hb _ t (by omega) hlt ht, hlt⟩
    · rw [hf1, hsp]
      rcases hi with hi | ⟨hle, -⟩
      · rw [show i - frL q k = 0 by omega, ← hi, Nat.add_zero]; exact hsp
      · rw [show frL q k + (i - frL q k) = i by omega]
/-- What stands behind the last place. -/
theorem after_at {ss : List Sp} {win : Int} (hm : mayB ss win = true) {q : List Int} (hq : q ∈ rowsP ss) :
    ∃ d : Nat, afterL ss win = fromL (frL q q.length : Nat) d ∧ frL q q.length + d = ss.length ∧ (∀ x, x < d → (stepA ss (frL q q.length + x)).neg = true) ∧ 1 ≤ q.length ∧ q[q.length - 1]? = some ((frL q q.length : Int) - 1) := by
  have hG := may_good hm
  have hl := (hG.row_len hq).1
  have hc0 := cov_drop (hG.cov hq) (q.length - 1) (by omega)
  rw [List.drop_eq_getElem_cons (by omega)] at hc0
  obtain ⟨p, t, e', ht, hn, -, -⟩ := hc0
  have hp : q[q.length - 1]? = some (p : Int) := by rw [List.getElem?_eq_getElem (by omega), e']
  have hfp : frL q q.length = p + 1 := by
    unfold frL
    rw [if_neg (by omega), hp]
    simp
  have hpl := (List.getElem?_eq_some_iff.1 ht).1
  have hc := cov_drop (hG.cov hq) q.length (Nat.le_refl _)
  rw [List.drop_length] at hc
  have hneg : ∀ j, p + 1 ≤ j → j < ss.length → (stepA ss j).neg = true := fun j h1 h2 => by
    obtain ⟨s, hs⟩ : ∃ s, ss[j]? = some s := ⟨_, List.getElem?_eq_getElem h2⟩
    rw [stepA_of hs]
    exact hc j s (by rw [hfp]; exact h1) hs
  have hlast : lastU ss ss.length = p := by
    rw [lastU_down (k := p + 1) (by omega) hneg]
    exact lastU_at (by rw [stepA_of ht]; exact hn)
  refine ⟨ss.length - (p + 1), ?_, by rw [hfp]; omega, fun x hx => hneg _ (by omega) (by omega), hl, by rw [hp, hfp]; simp⟩
  unfold afterL
  rw [if_pos hm]
  unfold tailP
  rw [hlast]
  unfold betL
  rw [hfp]
  congr 1 <;> omega
/-- At the end. -/
theorem seenL_end (ss : List Sp) {j : Nat} (hj : j < ss.length) : (seenL ss ss.length)[j]? = some (if (stepA ss j).neg = true then 1 else 0) := by
  rw [seenL_at ss _ hj]; simp [hj]
end Go.Proofs.Ytfkdgaeiiejjlaa.Tree
/- Whether a pattern may be, at any length of its comparisons; After of a pattern that is too great. -/
namespace Go.Proofs.Ytfkdgaeiiejjlaa.Tree
open Go.ChangeShapes Go.WideShapes Go.ChangeAt Go.RowKit
set_option linter.unusedVariables false
set_option linter.unusedSimpArgs false
set_option maxRecDepth 100000
attribute [local go_sem] Oper.semAt_some
attribute [local go_sem] run_store_func
set_option maxRecDepth 100000 in
set_option maxHeartbeats 1000000 in
theorem terms_tellsM (N B : Nat) (hN : 1 ≤ N) (s : Sp) (a : Option Addr) (n c : Nat) (hn : n ≤ 9223372036854775807) (w : World) :
    TellsRowT True Fence.wide N Try.prog 80 #[.pointer (some ⟨B, 0, none⟩)] (SpIn B s a n c) 74 (termRow s.cs) w := by
  intro l J Jx W hW hK hDr hY h0
  clear hW
  rw [termRow_len] at *
  obtain ⟨m, hm⟩ : ∃ m, s.cs.length = m := ⟨_, rfl⟩
  have hmn : m = n := hm.symm.trans (hK _ _ h0).2.1
  subst hmn
  have hm' := Lib.hid hm
  simp only [hm] at hY ⊢
  clear hm
  replace hY := Lib.hid hY
  replace hDr := Lib.hid hDr
  replace hK := Lib.hid hK
  have k0 : W.cell? ⟨B, 5, none⟩ = some (.slice a m c) := by
    have h := (hK.out _ _ h0).1
    unfold SpBox at h
    simp [World.cell?, h]
  refine callsIn_of_wp Try.func80 rfl trivial ?_ rfl
  simp only [Try.ntmps80, List.size_toArray, List.length_cons, List.length_nil, Nat.reduceAdd, Nat.reduceSub, Array.replicate_succ, Array.replicate_zero, List.push_toArray, List.append_toArray, List.nil_append, List.cons_append]
  gi_wp2_with fail
  clear k0
  gi_loopw [8] (fun u wr => ∃ j : Nat, j ≤ m ∧ u = .int .i64 j ∧ J (j * 2) wr) (fun u _ => m - (intOf u).toNat)
  case atStart => exact ⟨0, Nat.zero_le _, rfl, by simpa using h0⟩
  case round =>
    clear h0
    obtain ⟨j, hj, rfl, hJs⟩ := hrel
    by_cases hlt : j < m
    · have hlti : (j : Int) < m := by omega
      obtain ⟨x, hx⟩ : ∃ x, s.cs[j]? = some x := ⟨_, List.getElem?_eq_getElem (by rw [hm'.out]; exact hlt)⟩
      obtain ⟨b, o, rfl, z0, z1, z2, z3, z4, z5, z6, z7, z8⟩ := (hK.out _ _ hJs).cmp hx
      obtain ⟨r0, r1⟩ := termRow_at hx
      have hb := kept_new wr (.cells #[.int .u8 x.op, .int .u8 x.l.k, .int .i64 x.l.n, .int .i64 x.l.s, .int .i64 x.l.r, .int .u8 x.r.k, .int .i64 x.r.n, .int .i64 x.r.s, .int .i64 x.r.r] 74)
      have hJ1 := hDr.out _ _ _ hJs hb
      have hcp := CpBox.new wr x
      have Y0 := hY.out (j * 2) (by omega) _ hJ1
      have Y1 := Lib.hid (hY.out (j * 2 + 1) (by omega))
      rw [r0] at Y0
      rw [r1] at Y1
      clear r0 r1 hb hDr hJs hx
      obtain ⟨q0, q1, q2, q3, q4, q5, q6, q7, q8⟩ := hcp.cells
      obtain ⟨fn, tmps, assign, body, hy, hR⟩ := Y0
      gi_wp2
      refine hR.mono ?_
      clear hR hy
      generalize wr.alloc (.cells #[.int .u8 x.op, .int .u8 x.l.k, .int .i64 x.l.n, .int .i64 x.l.s, .int .i64 x.l.r, .int .u8 x.r.k, .int .i64 x.r.n, .int .i64 x.r.s, .int .i64 x.r.r] 74) = W1 at *
      generalize wr.heap.size = S at *
      clear z0 z1 z2 z3 z4 z5 z6 z7 z8
      rintro e W3 (⟨rfl, hkt, hJ3⟩ | ⟨-, rfl, hJx3⟩)
      · have hcp3 : CpBox S x W3 := hkt _ _ _ hcp
        clear hcp hkt q0 q1 q2 q3 q4 q5 q6 q7 q8 hJ1
        obtain ⟨q0, q1, q2, q3, q4, q5, q6, q7, q8⟩ := hcp3.cells
        obtain ⟨fn, tmps, assign, body, hy, hR⟩ := Y1.out _ hJ3
        gi_wp2
        refine hR.mono ?_
        rintro e W4 (⟨rfl, hkt, hJ4⟩ | ⟨-, rfl, hJx4⟩)
        · gi_wp2
          go_roundw
          case rel => exact ⟨j + 1, hlt, by go_num, by rw [Nat.succ_mul]; exact hJ4⟩
          case measure => simp [intOf]; omega
        · gi_wp2
          refine bodyPost_ret (results_none rfl _ _ _) rfl ?_
          exact ⟨⟨_, rfl⟩, .inr ⟨_, hJx4⟩⟩
      · gi_wp2
        refine ⟨fun f hf => (by cases hf), ?_⟩
        gi_wp2
        refine bodyPost_ret (results_none rfl _ _ _) rfl ?_
        exact ⟨⟨_, rfl⟩, .inr ⟨_, hJx3⟩⟩
    · obtain rfl : j = m := by omega
      gi_wp2
      go_end0
      exact ⟨⟨_, rfl⟩, .inl hJs⟩
set_option maxRecDepth 100000 in
set_option maxHeartbeats 1000000 in
theorem rightStep_opM (s : Sp) (a : Option Addr) (n c : Nat) (w : World) (hn : n ≤ 9223372036854775807) (hl : s.cs.length = n) (hc : CpsAt w (.slice a n c) s.cs) (hop : ∀ x ∈ s.cs, 0 ≤ x.op) (h : numsOk s = true) (hbad : s.cs.all opOk = false) :
    Calls Try.prog 55 #[spV s (.slice a n c)] w fun e w' => e = .returned (.bool false) ∧ Below w.heap.size w w' := by
  have hb := kept_new w (.cells #[.bool s.neg, .int .i64 s.kind, .int .i64 s.min, .int .i64 s.max, .bool s.strict, .slice a n c] 32)
  have hsp := SpBox.new w s (.slice a n c)
  have hin : SpIn w.heap.size s a n c (w.alloc (.cells #[.bool s.neg, .int .i64 s.kind, .int .i64 s.min, .int .i64 s.max, .bool s.strict, .slice a n c] 32)) := ⟨hsp, hl, hc.later hb⟩
  obtain ⟨c0, c1, c2, c3, c4, c5⟩ := hsp.cells
  clear hsp hc
  unfold numsOk at h
  simp only [Bool.and_eq_true] at h
  obtain ⟨⟨h1, h2⟩, h3⟩ := h
  have H1 := Lib.hid (fun w => up_nbr s.kind true w h1)
  have H2 := Lib.hid (fun w => up_nbr s.min true w h2)
  have H3 := Lib.hid (fun w => up_nbr s.max true w h3)
  clear h1 h2 h3
  replace hbad := Lib.hid hbad
  replace hop := Lib.hid hop
  replace hl := Lib.hid hl
  replace hin := Lib.hid hin
  replace hb := Lib.hid hb
  refine (callsIn_wide (n := 9)).1 ?_
  refine callsIn_of_wp_marks Try.func55 rfl trivial ?_ rfl
  rw [wpIn_wide]
  simp only [Try.ntmps55, List.size_toArray, List.length_cons, List.length_nil, Nat.reduceAdd, Nat.reduceSub, Array.replicate_succ, Array.replicate_zero, List.push_toArray, List.append_toArray, List.nil_append, List.cons_append]
  go_wp2
  refine wp_scope_jumps 0 (fun a' W => Below w.heap.size w W ∧ a'.defers = [] ∧ 2 < a'.tmps.size) (fun _ _ => 0) rfl ?_ ?_
  · go_wp2_with ((first | (with_reducible refine (H1.out _).mono ?_) | (with_reducible refine (H2.out _).mono ?_) | (with_reducible refine (H3.out _).mono ?_)); rintro e w' ⟨rfl, rfl⟩)
    clear c0 c1 c2 c3 c4 c5 H1 H2 H3
    generalize (w.alloc (.cells #[.bool s.neg, .int .i64 s.kind, .int .i64 s.min, .int .i64 s.max, .bool s.strict, .slice a n c] 32)) = w0 at *
    generalize hB : w.heap.size = B at *
    replace hb : Hid (Below w.heap.size w w0) := by rw [hB]; exact hb
    replace hB := Lib.hid hB
    go_loopw [25] (fun t wr => ∃ i : Nat, i ≤ n ∧ t = .int .i64 i ∧ Hid (Below w0.heap.size w0 wr) ∧ Hid (∀ j x, j < i → s.cs[j]? = some x → opOk x = true)) (fun t _ => n - (intOf t).toNat)
    case atStart => exact ⟨0, Nat.zero_le _, rfl, Below.refl _ _, fun j x hj => by omega⟩
    case round =>
      obtain ⟨i, hi, rfl, hwr, hall⟩ := hrel
      by_cases hlt : i < n
      · have hlti : (i : Int) < n := by omega
        obtain ⟨x, hx⟩ : ∃ x, s.cs[i]? = some x := ⟨_, List.getElem?_eq_getElem (by rw [hl.out]; exact hlt)⟩
        obtain ⟨b, o, rfl, z0, z1, z2, z3, z4, z5, z6, z7, z8⟩ := (hin.out.later hwr.out).cmp hx
        have hop0 := hop.out x (List.mem_of_getElem? hx)
        have hcp := CpBox.new wr x
        have hw1 : Hid (Below w0.heap.size w0 (wr.alloc (.cells #[.int .u8 x.op, .int .u8 x.l.k, .int .i64 x.l.n, .int .i64 x.l.s, .int .i64 x.l.r, .int .u8 x.r.k, .int .i64 x.r.n, .int .i64 x.r.s, .int .i64 x.r.r] 74))) := kept_alloc hwr.out _
        obtain ⟨q0, q1, q2, q3, q4, q5, q6, q7, q8⟩ := hcp.cells
        clear hcp
        cases hok : opOk x with
        | false =>
          have hA := opOk_no hop0 hok
          clear hok hx
          rcases hA with h0 | h7
          · rw [h0] at z0 q0 q1 q2 q3 q4 q5 q6 q7 q8 hw1
            go_wp2
            refine wp_goto ?_
            exact ⟨rfl, kept_trans hb.out hw1.out, rfl, by simp⟩
          · have h7n : ¬ x.op = 0 := by omega
            have h7b : (x.op == 0) = false := by simp; omega
            go_wp2
            refine wp_goto ?_
            exact ⟨rfl, kept_trans hb.out hw1.out, rfl, by simp⟩
        | true =>
          obtain ⟨h0b, h7⟩ := opOk_yes hok
          have hall' : Hid (∀ j x, j < i + 1 → s.cs[j]? = some x → opOk x = true) := fun j y hj hy => by
            by_cases hji : j = i
            · subst hji; rw [hx] at hy; cases hy; exact hok
            · exact hall.out j y (by omega) hy
          clear hok hx
          go_wp2
          go_roundw
          case rel => exact ⟨i + 1, by omega, by go_num, hw1, hall'⟩
          case measure => simp [intOf]; omega
      · exfalso
        have : s.cs.all opOk = true := by
          rw [List.all_eq_true]
          intro x hx
          obtain ⟨j, hj⟩ := List.mem_iff_getElem?.1 hx
          have hjl := (List.getElem?_eq_some_iff.1 hj).1
          rw [hl.out] at hjl
          exact hall.out j x (by omega) hj
        rw [hbad.out] at this
        cases this
  · rintro a' W ⟨hB, hd, hs⟩
    go_wp2
    rw [jump_ret]
    exact ⟨.bool false, by simp [results, Try.results55, go_sem, hs], rfl, hB⟩
set_option maxRecDepth 100000 in
set_option maxHeartbeats 1000000 in
theorem rightStep_opsM (s : Sp) (a : Option Addr) (n c : Nat) (w : World) (hn : n ≤ 9223372036854775807) (hl : s.cs.length = n) (hc : CpsAt w (.slice a n c) s.cs) (h : numsOk s = true) (hgood : s.cs.all opOk = true) :
    Calls Try.prog 55 #[spV s (.slice a n c)] w fun e w' => e = .returned (.bool (rightS s)) ∧ Below w.heap.size w w' := by
  have hb := kept_new w (.cells #[.bool s.neg, .int .i64 s.kind, .int .i64 s.min, .int .i64 s.max, .bool s.strict, .slice a n c] 32)
  have hsp := SpBox.new w s (.slice a n c)
  have hin : SpIn w.heap.size s a n c (w.alloc (.cells #[.bool s.neg, .int .i64 s.kind, .int .i64 s.min, .int .i64 s.max, .bool s.strict, .slice a n c] 32)) := ⟨hsp, hl, hc.later hb⟩
  obtain ⟨c0, c1, c2, c3, c4, c5⟩ := hsp.cells
  have hRS := Lib.hid (rightS_terms h hgood)
  have hCps := Lib.hid hc
  clear hsp hc
  unfold numsOk at h
  simp only [Bool.and_eq_true] at h
  obtain ⟨⟨h1, h2⟩, h3⟩ := h
  have H1 := Lib.hid (fun w => up_nbr s.kind true w h1)
  have H2 := Lib.hid (fun w => up_nbr s.min true w h2)
  have H3 := Lib.hid (fun w => up_nbr s.max true w h3)
  clear h1 h2 h3
  replace hgood := Lib.hid hgood
  replace hl := Lib.hid hl
  replace hin := Lib.hid hin
  replace hb := Lib.hid hb
  refine (callsIn_wide (n := 9)).1 ?_
  refine callsIn_of_wp_marks Try.func55 rfl trivial ?_ rfl
  rw [wpIn_wide]
  simp only [Try.ntmps55, List.size_toArray, List.length_cons, List.length_nil, Nat.reduceAdd, Nat.reduceSub, Array.replicate_succ, Array.replicate_zero, List.push_toArray, List.append_toArray, List.nil_append, List.cons_append]
  go_wp2
  refine wp_scope_jumps 0 (fun a' W => rightS s = false ∧ Below w.heap.size w W ∧ 2 < a'.tmps.size ∧ ∃ D, a'.defers = [{ target := .collected D, args := #[] }] ∧ W.heap[D]? = some (.deferred (some [])) ∧ w.heap.size ≤ D) (fun _ _ => 0) rfl ?_ ?_
  · go_wp2_with ((first | (with_reducible refine (H1.out _).mono ?_) | (with_reducible refine (H2.out _).mono ?_) | (with_reducible refine (H3.out _).mono ?_)); rintro e w' ⟨rfl, rfl⟩)
    clear c0 c1 c2 c3 c4 c5 H1 H2 H3
    generalize (w.alloc (.cells #[.bool s.neg, .int .i64 s.kind, .int .i64 s.min, .int .i64 s.max, .bool s.strict, .slice a n c] 32)) = w0 at *
    generalize hB : w.heap.size = B at *
    replace hb : Hid (Below w.heap.size w w0) := by rw [hB]; exact hb
    replace hB := Lib.hid hB
    go_loopw [25] (fun t wr => ∃ i : Nat, i ≤ n ∧ t = .int .i64 i ∧ Hid (Below w0.heap.size w0 wr)) (fun t _ => n - (intOf t).toNat)
    case atStart => exact ⟨0, Nat.zero_le _, rfl, Below.refl _ _⟩
    case round =>
      obtain ⟨i, hi, rfl, hwr⟩ := hrel
      by_cases hlt : i < n
      · have hlti : (i : Int) < n := by omega
        obtain ⟨x, hx⟩ : ∃ x, s.cs[i]? = some x := ⟨_, List.getElem?_eq_getElem (by rw [hl.out]; exact hlt)⟩
        obtain ⟨b, o, rfl, z0, z1, z2, z3, z4, z5, z6, z7, z8⟩ := (hin.out.later hwr.out).cmp hx
        have hcp := CpBox.new wr x
        have hw1 : Hid (Below w0.heap.size w0 (wr.alloc (.cells #[.int .u8 x.op, .int .u8 x.l.k, .int .i64 x.l.n, .int .i64 x.l.s, .int .i64 x.l.r, .int .u8 x.r.k, .int .i64 x.r.n, .int .i64 x.r.s, .int .i64 x.r.r] 74))) := kept_alloc hwr.out _
        obtain ⟨q0, q1, q2, q3, q4, q5, q6, q7, q8⟩ := hcp.cells
        clear hcp
        have hok : opOk x = true := by
          have := hgood.out
          rw [List.all_eq_true] at this
          exact this x (List.mem_of_getElem? hx)
        obtain ⟨h0b, h7⟩ := opOk_yes hok
        clear hok hx
        go_wp2
        go_roundw
        case rel => exact ⟨i + 1, by omega, by go_num, hw1⟩
        case measure => simp [intOf]; omega
      · have hlti : ¬ (i : Int) < n := by omega
        have hin1 := hin.out.later hwr.out
        obtain ⟨y0, y1, y2, y3, y4, y5⟩ := hin1.1.cells
        have hbb : Below w.heap.size w wr := kept_trans hb.out hwr.out
        have hcw := hCps.out.later hbb
        clear hin
        go_wp2_with ((with_reducible refine (termsOf_any _ _ _ _ _).mono ?_); rintro e w' ⟨rfl, rfl⟩)
        clear y0 y1 y2 y3 y4 y5 hin1
        refine (wpIn_wide (n := 9)).1 ?_
        have hB0 : Below w.heap.size w (wr.alloc (.cells #[.bool s.neg, .int .i64 s.kind, .int .i64 s.min, .int .i64 s.max, .bool s.strict, .slice a n c] 32)) := kept_alloc hbb _
        have hI0 : RsIn w wr.heap.size s (.slice a n c) 0 (wr.alloc (.cells #[.bool s.neg, .int .i64 s.kind, .int .i64 s.min, .int .i64 s.max, .bool s.strict, .slice a n c] 32)) := ⟨SpBox.new wr s _, hB0, fun j t hj => by omega⟩
        have hs0 : w.heap.size ≤ (wr.alloc (.cells #[.bool s.neg, .int .i64 s.kind, .int .i64 s.min, .int .i64 s.max, .bool s.strict, .slice a n c] 32)).heap.size := hB0.size
        have hcw' : CpsAt w (.slice a n c) s.cs := hCps.out
        generalize wr.heap.size = S2 at *
        generalize (wr.alloc (.cells #[.bool s.neg, .int .i64 s.kind, .int .i64 s.min, .int .i64 s.max, .bool s.strict, .slice a n c] 32)) = W0 at *
        clear hCps hB
        have hRS' := Lib.hid hRS.out
        refine wpIn_rangeFunc_rowT rfl (by omega) (gf := 80) (lb := #[.pointer (some ⟨S2, 0, none⟩)]) rfl trivial (enters_of Try.func80 (by kernel_rfl) rfl)
          (terms_tellsM 8 S2 (by omega) s a n c hn W0) (Below.refl _ _) (fun k hk => by obtain ⟨t, _, e⟩ := term_row hk; rw [e]; rfl)
          (RsIn w S2 s (.slice a n c)) (RsOut w s) (RsIn.own w _ _ _ _ hs0) (RsOut.own w _ _ hs0) (fun k W h => ⟨h.1, hl.out, hcw'.later h.2.1⟩) (fun _ _ h => trivial)
          hI0
          (fun k a' W => ∃ (t : Tm) (p : Nat) (u0 u1 u3 u4 u6 u7 u8 u9 u10 u11 u12 u13 u14 u15 u16 u17 u18 u19 u20 u21 u22 u23 u24 u25 u26 u27 u28 u29 u30 u31 u32 u33 u34 u35 u36 u37 u38 u39 : Value), (termsC s.cs)[k]? = some t ∧ TmBox p t W ∧
            a' = { tmps := #[u0, u1, Value.bool false, u3, u4, .pointer (some ⟨p, 0, none⟩), u6, u7, u8, u9, u10, u11, u12, u13, u14, u15, u16, u17, u18, u19, u20, u21, u22, u23, u24, u25, u26, u27, u28, u29, u30, u31, u32, u33, u34, u35, u36, u37, u38, u39, tmV t, undef, undef, undef], defers := [] })
          ?ax ?assign ?body ?done ?stop
        case ax =>
          rintro k a' ⟨⟩ X Y row ⟨t, p, u0, u1, u3, u4, u6, u7, u8, u9, u10, u11, u12, u13, u14, u15, u16, u17, u18, u19, u20, u21, u22, u23, u24, u25, u26, u27, u28, u29, u30, u31, u32, u33, u34, u35, u36, u37, u38, u39, h1, h2, h3⟩ hg hrow
          exact ⟨t, p, u0, u1, u3, u4, u6, u7, u8, u9, u10, u11, u12, u13, u14, u15, u16, u17, u18, u19, u20, u21, u22, u23, u24, u25, u26, u27, u28, u29, u30, u31, u32, u33, u34, u35, u36, u37, u38, u39, h1, ownFrom_block p (fun _ : Unit => _) 72 _ () X Y row h2 hg hrow, h3⟩
        case assign =>
          intro l k W K hk hI hK
          obtain ⟨t, ht, e⟩ := term_row hk
          rw [e]
          have hk1 := kept_new W (.cells #[.int .u8 t.k, .int .i64 t.n, .int .i64 t.s, .int .i64 t.r] 72)
          have hI1 : RsIn w S2 s (.slice a n c) k (W.alloc (.cells #[.int .u8 t.k, .int .i64 t.n, .int .i64 t.s, .int .i64 t.r] 72)) := (RsIn.own w S2 s _ w.heap.size (Nat.le_refl _)).alloc _ hI
          have hsp := TmBox.new W t
          gi_wp2
          exact hK _ _ (keeps_of_below hk1) (KeepsT.of_below hk1) hI1 ⟨t, _, _, _, _, _, _, _, _, _, _, _, _, _, _, _, _, _, _, _, _, _, _, _, _, _, _, _, _, _, _, _, _, _, _, _, _, _, _, _, ht, hsp, rfl⟩
        case body =>
          rintro l k a' W hk ⟨b1, b2, b3⟩ ⟨t, p, u0, u1, u3, u4, u6, u7, u8, u9, u10, u11, u12, u13, u14, u15, u16, u17, u18, u19, u20, u21, u22, u23, u24, u25, u26, u27, u28, u29, u30, u31, u32, u33, u34, u35, u36, u37, u38, u39, ht, hp, rfl⟩
          obtain ⟨c0, c1, c2, c3⟩ := hp.c
          have hC := rightTerm_any t
          have hRno : rightT t = false → rightS s = false := fun hf => by
            rw [hRS.out, List.all_eq_false]
            exact ⟨t, List.mem_of_getElem? ht, by simp [hf]⟩
          cases hok : rightT t with
          | false =>
            have hr := Lib.hid (hRno hok)
            rw [hok] at hC
            clear hok hRno
            replace hC := Lib.hid hC
            gi_wp2_with fail
            refine ⟨trivial, ((callsIn_wide (n := 6)).2 (hC.out _)).mono ?_⟩
            rintro e w6 ⟨rfl, hb6⟩
            have hB6 := b2.trans (hb6.mono b2.size)
            gi_wp2
            refine wpIn_goto ?_
            exact ⟨keeps_of_below hb6, rfl, hr.out, hB6⟩
          | true =>
            have hr : Hid (∀ j y, j < k + 1 → (termsC s.cs)[j]? = some y → rightT y = true) := fun j y hj hy => by
              by_cases hjk : j = k
              · subst hjk; rw [ht] at hy; cases hy; exact hok
              · exact b3 j y (by omega) hy
            rw [hok] at hC
            clear hok hRno ht
            replace hC := Lib.hid hC
            gi_wp2_with fail
            refine ⟨trivial, ((callsIn_wide (n := 6)).2 (hC.out _)).mono ?_⟩
            rintro e w6 ⟨rfl, hb6⟩
            have hB6 := b2.trans (hb6.mono b2.size)
            gi_wp2
            exact ⟨keeps_of_below hb6, KeepsT.of_below hb6, b1.later hb6, hB6, hr.out⟩
        case done =>
          rintro D W hD ⟨b1, b2, b3⟩ hK
          have hDw : w.heap.size ≤ D := Nat.le_trans hs0 hD
          have hr : Hid (rightS s = true) := by
            show _ = _
            rw [hRS.out, List.all_eq_true]
            intro t ht
            obtain ⟨j, hj⟩ := List.mem_iff_getElem?.1 ht
            exact b3 j t (by simpa [termRow] using (List.getElem?_eq_some_iff.1 hj).1) hj
          clear b3 b1
          go_wp2
          rw [jump_ret]
          refine ⟨by simp, .inl ⟨_, _, rfl, run_takeDeferred hK, ?_⟩⟩
          exact ⟨_, results_tmp rfl _ _ _, by rw [hr.out]; rfl, b2.trans (belowK_b (w := w) (Nat.le_refl _) W D _ (.deferred none) hDw hK rfl rfl)⟩
        case stop =>
          rintro D c W hD ⟨rfl, hr, hB⟩ hK
          refine wpIn_goto ?_
          exact ⟨rfl, hr, hB, by simp, D, rfl, hK, Nat.le_trans hs0 hD⟩
  · rintro a' W ⟨hr, hB, hs, D, hd, hK, hD⟩
    obtain ⟨tm, df⟩ := a'
    dsimp only at hd hs
    subst hd
    go_wp2
    rw [jump_ret]
    refine ⟨by simp, .inl ⟨_, _, rfl, run_takeDeferred hK, ?_⟩⟩
    refine ⟨.bool false, by simp [results, Try.results55, go_sem, hs], by rw [hr], hB.trans (belowK_b (w := w) (Nat.le_refl _) W D _ (.deferred none) hD hK rfl rfl)⟩
theorem rightStep_anyM (s : Sp) (a : Option Addr) (n c : Nat) (w : World) (hn : n ≤ 9223372036854775807) (hl : s.cs.length = n) (hc : CpsAt w (.slice a n c) s.cs) (hop : ∀ x ∈ s.cs, 0 ≤ x.op) :
    Calls Try.prog 55 #[spV s (.slice a n c)] w fun e w' => e = .returned (.bool (rightS s)) ∧ Below w.heap.size w w' := by
  cases h : numsOk s with
  | false => rw [rightS_num h]; exact rightStep_nums s a n c w h
  | true =>
    cases hg : s.cs.all opOk with
    | true => exact rightStep_opsM s a n c w hn hl hc h hg
    | false =>
      have hr : rightS s = false := by
        rw [List.all_eq_false] at hg
        obtain ⟨x, hx, ho⟩ := hg
        obtain ⟨j, hj⟩ := List.mem_iff_getElem?.1 hx
        exact rightS_op hj (by simpa using ho)
      rw [hr]
      exact rightStep_opM s a n c w hn hl hc hop h hg
set_option maxRecDepth 100000 in
set_option maxHeartbeats 1000000 in
theorem right_LM (a : Option Addr) (n c : Nat) (win : Int) (L : List (Sp × Value)) (hS : ∀ x ∈ L, x.1.cs.length ≤ 9223372036854775807) (w : World) (hl : L.length = n) (h : SpsL w (.slice a n c) L) (ho : OpsOk L) :
    Calls Try.prog 41 #[ptV (.slice a n c) win] w fun e w' => e = .returned (.bool (rightP (L.map (·.1)) win)) ∧ Below w.heap.size w w' := by
  have hb := kept_new w (.cells #[.slice a n c, .int .i64 win] 24)
  have hp := PtBox.new w (.slice a n c) win
  have hin : PtIn w.heap.size a n c win L (w.alloc (.cells #[.slice a n c, .int .i64 win] 24)) := ⟨hp, hl, h.later hb⟩
  have c0 := hp.c0
  have c1 := hp.c1
  have hln : (L.map (·.1)).length = n := by simpa using hl
  clear hp h
  refine (callsIn_wide (n := 9)).1 ?_
  refine callsIn_of_wp_marks Try.func41 rfl trivial ?_ rfl
  rw [wpIn_wide]
  simp only [Try.ntmps41, List.size_toArray, List.length_cons, List.length_nil, Nat.reduceAdd, Nat.reduceSub, Array.replicate_succ, Array.replicate_zero, List.push_toArray, List.append_toArray, List.nil_append, List.cons_append]
  go_wp2
  obtain ⟨R, hR⟩ : ∃ R, rightP (L.map (·.1)) win = R := ⟨_, rfl⟩
  refine wp_scope_jumps 0 (fun a' W => R = false ∧ Below w.heap.size w W ∧ a'.defers = [] ∧ 2 < a'.tmps.size) (fun _ _ => 0) rfl ?_ ?_
  · by_cases h1 : 1 ≤ n
    · by_cases h26 : n ≤ 26
      · have hn0 : ((n : Int) == 0) = false := by simp; omega
        have hn26 : ¬ (26 : Int) < n := by omega
        have hnp : n ≤ 9223372036854775807 := by omega
        cases hw : nbr win with
        | false =>
          have hRf : R = false := by rw [← hR]; exact rightP_win hw
          have H1 := Lib.hid (fun w => up_nbr win false w hw)
          clear hR hw
          go_wp2_with ((with_reducible refine (H1.out _).mono ?_); rintro e w' ⟨rfl, rfl⟩)
          refine wp_goto ?_
          exact ⟨rfl, hRf, hb, rfl, by simp⟩
        | true =>
          have H1 := Lib.hid (fun w => up_nbr win true w hw)
          have hyes := Lib.hid (fun (hall : ∀ j s, j < n → (L.map (·.1))[j]? = some s → rightS s = true) => steps_yes (win := win) (i := n) (by omega) (by omega) hw (by omega) hall)
          clear hw
          replace hR := Lib.hid hR
          replace hb := Lib.hid hb
          replace hin := Lib.hid hin
          go_wp2_with ((with_reducible refine (H1.out _).mono ?_); rintro e w' ⟨rfl, rfl⟩)
          clear c0 c1 H1
          generalize (w.alloc (.cells #[.slice a n c, .int .i64 win] 24)) = w0 at *
          generalize hB : w.heap.size = B at *
          replace hb : Hid (Below w.heap.size w w0) := by rw [hB]; exact hb
          replace hB := Lib.hid hB
          go_loopw [24] (fun t wr => ∃ i : Nat, i ≤ n ∧ t = .int .i64 i ∧ Hid (Below w0.heap.size w0 wr) ∧ Hid (∀ j s, j < i → (L.map (·.1))[j]? = some s → rightS s = true)) (fun t _ => n - (intOf t).toNat)
          case atStart => exact ⟨0, Nat.zero_le _, rfl, Below.refl _ _, fun j s hj => by omega⟩
          case round =>
            obtain ⟨i, hi, rfl, hwr, hall⟩ := hrel
            by_cases hlt : i < n
            · have hlti : (i : Int) < n := by omega
              obtain ⟨⟨s, v⟩, hx⟩ := sps_i (L := L) (i := i) (by rw [hl]; exact hlt)
              obtain ⟨b, o, rfl, z0, z1, z2, z3, z4, z5, hv⟩ := (hin.out.later hwr.out).step hx
              have hsh := hS _ (List.mem_of_getElem? hx)
              have hos := ho _ (List.mem_of_getElem? hx)
              dsimp only at hsh hos
              obtain ⟨m, hm⟩ : ∃ l, s.cs.length = l := ⟨_, rfl⟩
              obtain ⟨a3, c3, rfl⟩ := cps_lit hv hm
              have hsp := SpBox.new wr s (.slice a3 m c3)
              have hk1 := kept_new wr (.cells #[.bool s.neg, .int .i64 s.kind, .int .i64 s.min, .int .i64 s.max, .bool s.strict, .slice a3 m c3] 32)
              have hC := rightStep_anyM s a3 m c3 (wr.alloc (.cells #[.bool s.neg, .int .i64 s.kind, .int .i64 s.min, .int .i64 s.max, .bool s.strict, .slice a3 m c3] 32)) (by omega) hm (hv.later hk1) hos
              obtain ⟨q0, q1, q2, q3, q4, q5⟩ := hsp.cells
              have hsm := map_fst hx
              clear hsp hv hm hsh hos hx
              cases hok : rightS s with
              | false =>
                have hRf : R = false := by rw [← hR.out]; exact step_no hsm hok
                rw [hok] at hC
                replace hC := Lib.hid hC
                clear hok hsm
                go_wp2_with ((with_reducible refine hC.out.mono ?_); rintro e w6 ⟨rfl, hb6⟩)
                refine wp_goto ?_
                exact ⟨rfl, hRf, kept_trans hb.out (kept_trans hwr.out (kept_trans hk1 hb6)), rfl, by simp⟩
              | true =>
                rw [hok] at hC
                replace hC := Lib.hid hC
                have hall' : Hid (∀ j s, j < i + 1 → (L.map (·.1))[j]? = some s → rightS s = true) := fun j y hj hy => by
                  by_cases hji : j = i
                  · subst hji; rw [hsm] at hy; cases hy; exact hok
                  · exact hall.out j y (by omega) hy
                clear hok hsm
                go_wp2_with ((with_reducible refine hC.out.mono ?_); rintro e w6 ⟨rfl, hb6⟩)
                have hw6 : Hid (Below w0.heap.size w0 w6) := kept_trans hwr.out (kept_trans hk1 hb6)
                clear hb6 hk1 z0 z1 z2 z3 z4 z5 q0 q1 q2 q3 q4 q5 hC
                go_roundw
                case rel => exact ⟨i + 1, by omega, by go_num, hw6, hall'⟩
                case measure => simp [intOf]; omega
            · obtain rfl : i = n := by omega
              have hRt : R = true := by rw [← hR.out]; exact hyes.out hall.out
              have hbb : Below w.heap.size w wr := kept_trans hb.out hwr.out
              go_wp2
              rw [jump_ret]
              exact ⟨_, results_tmp rfl _ _ _, by rw [hR.out, hRt]; rfl, hbb⟩
      · have hRf : R = false := by rw [← hR]; exact rightP_len (.inr (by omega))
        have hn0 : ((n : Int) == 0) = false := by simp; omega
        have hn26 : (26 : Int) < n := by omega
        go_wp2
        refine wp_goto ?_
        exact ⟨rfl, hRf, hb, rfl, by simp⟩
    · have hRf : R = false := by rw [← hR]; exact rightP_len (.inl (by omega))
      obtain rfl : n = 0 := by omega
      go_wp2
      refine wp_goto ?_
      exact ⟨rfl, hRf, hb, rfl, by simp⟩
  · rintro a' W ⟨hr, hB, hd, hs⟩
    go_wp2
    rw [jump_ret]
    exact ⟨.bool false, by simp [results, Try.results41, go_sem, hs], by rw [hR, hr], hB⟩
theorem right_VM {v : Value} {L : List (Sp × Value)} (win : Int) (hS : ∀ x ∈ L, x.1.cs.length ≤ 9223372036854775807) (ho : OpsOk L) (w : World) (h : SpsL w v L) :
    Calls Try.prog 41 #[ptV v win] w fun e w' => e = .returned (.bool (rightP (L.map (·.1)) win)) ∧ Below w.heap.size w w' := by
  obtain ⟨a, c, rfl⟩ := h.lit rfl
  exact right_LM a _ c win L hS w rfl h ho
set_option maxRecDepth 100000 in
set_option maxHeartbeats 1000000 in
theorem rule7_anyM (i : Nat) (a1 : Option Addr) (n c1 p : Nat) (win : Int) (L : List (Sp × Value)) (s : Sp) (a : Option Addr) (m c : Nat) (w : World) (hx : L[i]? = some (s, .slice a m c)) (hn2 : n ≤ 1000000)
    (hpos : ∀ x ∈ namesC s.cs, 0 ≤ x) (hp : PtIn p a1 n c1 win L w) :
    Calls Try.prog 65 #[.int .i64 i, spV s (.slice a m c), .pointer (some ⟨p, 0, none⟩)] w fun e w' => e = .returned (.bool (rule7 (L.map (·.1)) i s)) ∧ Below w.heap.size w w' := by
  have hb := Lib.hid (kept_new w (.cells #[.bool s.neg, .int .i64 s.kind, .int .i64 s.min, .int .i64 s.max, .bool s.strict, .slice a m c] 32))
  obtain ⟨q0, q1, q2, q3, q4, q5⟩ := (SpBox.new w s (.slice a m c)).cells
  have hp1 := hp.later (kept_new w (.cells #[.bool s.neg, .int .i64 s.kind, .int .i64 s.min, .int .i64 s.max, .bool s.strict, .slice a m c] 32))
  have hA := fun (hm : s.cs.length ≤ 100000) => asks_any i a1 n c1 win L s (.slice a m c) _ hp1.2.1 hx hn2 hm hpos hp1.2.2
  have p0 := hp1.1.c0
  have p1 := hp1.1.c1
  obtain ⟨a2, c2, e2, -⟩ := hp.2.2.2 _ (List.mem_of_getElem? hx)
  dsimp only at e2
  simp only [Value.slice.injEq] at e2
  obtain ⟨rfl, e3, rfl⟩ := e2
  subst e3
  unfold rule7
  by_cases h : s.cs.length ≤ 4
  · replace hA := hA (by omega)
    have h4 : (s.cs.length : Int) ≤ 4 := by omega
    obtain ⟨R, hR⟩ : ∃ R, asksP (L.map (·.1)) i s = R := ⟨_, rfl⟩
    rw [hR] at hA ⊢
    rw [decide_eq_true h, Bool.true_and]
    generalize s.cs.length = m at *
    replace hA := Lib.hid hA
    clear hp hp1 hx hpos hR
    go_enter Try.func65, Try.ntmps65
    go_wp2_with ((with_reducible refine hA.out.mono ?_); rintro e w2 ⟨rfl, hb2⟩)
    go_ret
    exact ⟨rfl, kept_trans hb.out hb2⟩
  · have h4 : ¬ (s.cs.length : Int) ≤ 4 := by omega
    rw [decide_eq_false h, Bool.false_and]
    generalize s.cs.length = m at *
    clear hp hp1 hx hpos hA
    go_enter Try.func65, Try.ntmps65
    go_wp2
    go_ret
    exact ⟨rfl, hb.out⟩
theorem rule_anyM (k : Nat) (hk : k < 7) (i : Nat) (P Q A : Nat) (a1 : Option Addr) (n c1 : Nat) (win : Int) (L : List (Sp × Value)) (s : Sp) (a : Option Addr) (m c : Nat) (w : World) (hx : L[i]? = some (s, .slice a m c)) (hn2 : n ≤ 1000000)
    (hr : rightS s = true) (hR : RuIn P Q A a1 n c1 win L w) :
    Calls Try.prog (ruleG k) (#[.int .i64 i, spV s (.slice a m c)] ++ ruleLb P Q k) w fun e w' => e = .returned (.bool (ruleB (L.map (·.1)) win k i s)) ∧ Below w.heap.size w w' := by
  have hi : i < n := by have := (List.getElem?_eq_some_iff.1 hx).1; have := hR.1.2.1; omega
  match k, hk with
  | 0, _ => have := rule1_any i s a m c P a1 n c1 win L w hR.1; unfold ruleB; rw [List.length_map, hR.1.2.1]; exact this
  | 1, _ => exact rule2_any i s a m c w
  | 2, _ => exact rule3_any i s a m c w
  | 3, _ => exact rule4_any i a1 n c1 P win L s a m c w hi hn2 hR.1
  | 4, _ => exact rule5_any i s a m c w
  | 5, _ => exact rule6_any i s a m c Q _ w hR.2.1
  | 6, _ => exact rule7_anyM i a1 n c1 P win L s a m c w hx hn2 (names_pos hr) hR.1
set_option maxRecDepth 100000 in
set_option maxHeartbeats 4000000 in
theorem check_LM (a : Option Addr) (n c : Nat) (win : Int) (L : List (Sp × Value)) (hS : ∀ x ∈ L, x.1.cs.length ≤ 9223372036854775807) (ho : OpsOk L) (w : World) (hl : L.length = n) (h : SpsL w (.slice a n c) L) :
    Calls Try.prog 31 #[ptV (.slice a n c) win] w fun e w' => e = .returned (.tuple #[.int .i64 (checkT (L.map (·.1)) win).1, .int .i64 (checkT (L.map (·.1)) win).2.1, .int .i64 (checkT (L.map (·.1)) win).2.2]) ∧ Below w.heap.size w w' := by
  obtain ⟨r1, r2, r3, hT⟩ : ∃ r1 r2 r3, checkT (L.map (·.1)) win = (r1, r2, r3) := ⟨_, _, _, rfl⟩
  rw [hT]
  dsimp only
  replace hT := Lib.hid hT
  have hb0 := Lib.hid (((((Below.refl _ w).alloc (Nat.le_refl _) (.cells #[.slice a n c, .int .i64 win] 24)).alloc (by simp) (.cells #[.int .i64 0] 3)).alloc (by simp; omega) (.cells #[.int .i64 0] 3)).alloc (by simp; omega) (.cells #[.int .i64 0] 48))
  have hRt := Lib.hid (fun W (hW : Below w.heap.size w W) => right_VM win hS ho W (h.later hW))
  refine (callsIn_wide (n := 9)).1 ?_
  refine callsIn_of_wp_marks Try.func31 rfl trivial ?_ rfl
  rw [wpIn_wide]
  simp only [Try.ntmps31, List.size_toArray, List.length_cons, List.length_nil, Nat.reduceAdd, Nat.reduceSub, Array.replicate_succ, Array.replicate_zero, List.push_toArray, List.append_toArray, List.nil_append, List.cons_append]
  go_wp2
  refine wp_scope_jumps 0 (fun a' W => CkJ w r1 r2 r3 a' W) (fun _ _ => 0) rfl ?_ ?_
  · have hb4 := four_box w (.slice a n c) win
    have hpt : PtIn w.heap.size a n c win L ((((w.alloc (.cells #[.slice a n c, .int .i64 win] 24)).alloc (.cells #[.int .i64 0] 3)).alloc (.cells #[.int .i64 0] 3)).alloc (.cells #[.int .i64 0] 48)) := ⟨hb4.1, hl, h.later hb0.out⟩
    have hC := hRt.out _ hb0.out
    generalize ((((w.alloc (.cells #[.slice a n c, .int .i64 win] 24)).alloc (.cells #[.int .i64 0] 3)).alloc (.cells #[.int .i64 0] 3)).alloc (.cells #[.int .i64 0] 48)) = W4 at *
    have c0 := hpt.1.c0
    have c1 := hpt.1.c1
    obtain ⟨R, hR⟩ : ∃ R, rightP (L.map (·.1)) win = R := ⟨_, rfl⟩
    rw [hR] at hC
    cases R with
    | false =>
      have hTT := hT.out
      rw [checkT_wrong hR] at hTT
      simp only [Prod.mk.injEq] at hTT
      obtain ⟨rfl, rfl, rfl⟩ := hTT
      replace hC := Lib.hid hC
      replace hb4 := Lib.hid hb4
      clear hR hpt hRt h hl
      go_wp2_with ((with_reducible refine hC.out.mono ?_); rintro e w5 ⟨rfl, hb5⟩; have hb45 := hb4.out.2.2.2; have x3 := (boxed_later hb45 hb5).cell; have y3 := (boxed_later hb45 hb5).frozen)
      refine wp_goto ?_
      refine ⟨rfl, _, _, _, _, _, _, _, _, _, _, _, _, _, _, _, _, _, _, _, _, _, [], rfl, trivial, boxed_far (boxed_later hb4.out.2.1 hb5) (show w.heap.size + 1 ≠ w.heap.size + 3 by omega) _ _, boxed_far (boxed_later hb4.out.2.2.1 hb5) (show w.heap.size + 2 ≠ w.heap.size + 3 by omega) _ _, (boxed_later hb4.out.2.2.2 hb5).set _, (kept_trans hb0.out hb5).setCell (p := ⟨w.heap.size + 3, 0, none⟩) (by simp) _⟩
    | true =>
      have hn26 : n ≤ 26 := by
        unfold rightP at hR
        simp only [Bool.and_eq_true, decide_eq_true_eq, List.length_map] at hR
        omega
      have hRul := Lib.hid (fun W (hW : Below w.heap.size w W) => rules_L a n c win L (by omega) W hl (h.later hW))
      replace hC := Lib.hid hC
      replace hb4 := Lib.hid hb4
      replace hR := Lib.hid hR
      clear hRt
      go_wp2_with (first
        | ((with_reducible refine hC.out.mono ?_); rintro e w5 ⟨rfl, hb5⟩; have hB5 := Lib.hid (kept_trans hb0.out hb5); have hp5 := hpt.later hb5; have d0 := hp5.1.c0; have d1 := hp5.1.c1; have hC2 := Lib.hid (hRul.out _ hB5.out); replace hp5 := Lib.hid hp5; replace hb5 := Lib.hid hb5)
        | ((with_reducible refine hC2.out.mono ?_); rintro e w6 ⟨P, Q, A, rfl, hRu, hP, hQ, hA, hb6⟩))
      have hCB : CkB w.heap.size P Q A a n c win L w6 := ⟨(hp5.out.later hb6).1, boxed_later (boxed_later hb4.out.2.1 hb5.out) hb6, boxed_later (boxed_later hb4.out.2.2.1 hb5.out) hb6, boxed_later (boxed_later hb4.out.2.2.2 hb5.out) hb6, hRu⟩
      have hB6 : Below w.heap.size w w6 := kept_trans hB5.out hb6
      have hS3 : w.heap.size + 3 < w6.heap.size := (Array.getElem?_eq_some_iff.1 hCB.2.2.2.1).1
      clear hRu c0 c1 d0 d1 hC hC2 hp5 hpt hb5 hb6 hb4 hB5 hb0 hRul
      refine wp_loop (CkI w P Q A a n c win L) (fun a' _ => (7 - intOf (a'.tmps.getD 15 undef)).toNat) ⟨0, _, _, _, _, _, _, _, _, _, _, [], by omega, rfl, trivial, hCB, hB6, fun j hj => by omega⟩ ?_
      rintro a' W ⟨k, u5, u6, u16, u17, u18, u19, u20, u21, u22, u33, ds, hk, rfl, hd, hCk, hBk, hkept⟩
      by_cases hk7 : k < 7
      · have hk7i : (k : Int) < 7 := by omega
        have hkc := hCk.2.2.2.2.cell hk7
        rw [ruleV_eq P Q k hk7] at hkc
        have c0 := hCk.1.c0
        clear hCB hB6
        have hk2 := ((Below.refl W.heap.size W).alloc (Nat.le_refl _) (.cells #[.int .i64 k] 3)).alloc (by simp) (.cells #[.func (.func (ruleG k)) #[] (ruleLb P Q k)] 66)
        have c0' := (hCk.later hk2).1.c0
        go_wp2_with ((with_reducible refine (all_any _ _ _ _).mono ?_); rintro e w' ⟨rfl, rfl⟩)
        refine (wpIn_wide (n := 9)).1 ?_
        have hE0 : CrI w P Q A a n c win L k W.heap.size ds 0 (((W.alloc (.cells #[.int .i64 k] 3)).alloc (.cells #[.func (.func (ruleG k)) #[] (ruleLb P Q k)] 66)).alloc (.cells #[.slice a n c] 22)) := by
          have hk3 := kept_alloc hk2 (.cells #[.slice a n c] 22)
          obtain ⟨g1, g2, g3, g4, ⟨g5, -, -⟩, g6, g7⟩ := hCk.later hk3
          refine ⟨g1, g2, g3, g4, g5, g6, g7, ?_, ?_, ?_, kept_trans hBk hk3, hd.later hk3, fun i s hi => by omega⟩
          · have := ((Boxed.new W 3 (.int .i64 k)).alloc (.cells #[.func (.func (ruleG k)) #[] (ruleLb P Q k)] 66)).alloc (.cells #[.slice a n c] 22)
            exact this
          · have t1 := World.alloc_heap_new (W.alloc (.cells #[.int .i64 k] 3)) (.cells #[.func (.func (ruleG k)) #[] (ruleLb P Q k)] 66)
            rw [World.size_alloc] at t1
            exact (Below.heap_alloc ((W.alloc (.cells #[.int .i64 k] 3)).alloc (.cells #[.func (.func (ruleG k)) #[] (ruleLb P Q k)] 66)) (.cells #[.slice a n c] 22) (W.heap.size + 1) (by simp)).trans t1
          · have := World.alloc_heap_new ((W.alloc (.cells #[.int .i64 k] 3)).alloc (.cells #[.func (.func (ruleG k)) #[] (ruleLb P Q k)] 66)) (.cells #[.slice a n c] 22)
            rw [World.size_alloc, World.size_alloc] at this
            exact this
        have hdl := hd.lt
        have hsz3 : (((W.alloc (.cells #[.int .i64 k] 3)).alloc (.cells #[.func (.func (ruleG k)) #[] (ruleLb P Q k)] 66)).alloc (.cells #[.slice a n c] 22)).heap.size = W.heap.size + 3 := by simp
        have hwW : w.heap.size ≤ W.heap.size := hBk.size
        clear c0 c0' hkc hk2 hCk hBk
        generalize (((W.alloc (.cells #[.int .i64 k] 3)).alloc (.cells #[.func (.func (ruleG k)) #[] (ruleLb P Q k)] 66)).alloc (.cells #[.slice a n c] 22)) = W0 at *
        generalize W.heap.size = E at *
        have hdW0 : ∀ D, ({ target := .collected D, args := #[] } : Deferred) ∈ ds → D < W0.heap.size := fun D hD => by have := hdl D hD; omega
        refine wpIn_rangeFunc_rowT rfl (by omega) (gf := 67) (lb := #[ptr (E + 2)]) rfl trivial (enters_of Try.func67 (by kernel_rfl) rfl)
          (all_tells 8 (E + 2) (by omega) a n c L (by omega) W0) (Below.refl _ _) (fun k hk => allRow_size hk)
          (CrI w P Q A a n c win L k E ds) (CrO w r1 r2 r3 ds) (CrI.own w P Q A a n c win L k E ds _ (by omega) hdW0) (CrO.own w r1 r2 r3 ds _ (by omega) hdW0) (fun j X h' => ⟨h'.2.2.2.2.2.2.2.2.2.1, hl, h.later h'.2.2.2.2.2.2.2.2.2.2.1⟩) (fun _ _ h => trivial)
          hE0
          (fun j a' X => ∃ (s : Sp) (a2 : Option Addr) (m c2 p : Nat), L[j]? = some (s, .slice a2 m c2) ∧ SpBox p s (.slice a2 m c2) X ∧ w.heap.size + 3 < p ∧
            a' = { tmps := #[ptV (.slice a n c) win, ptr w.heap.size, ptr (w.heap.size + 1), ptr (w.heap.size + 2), ptr (w.heap.size + 3), ptr E, ptr (E + 1), .int .i64 j, ptr p, ptV (.slice a n c) win, .bool true, .bool false, ptV (.slice a n c) win, .slice (some ⟨A, 0, none⟩) 7 7, .int .i64 7, .int .i64 k, .bool true, .int .i64 k, .pointer (some ⟨A, k, none⟩), .func (.func (ruleG k)) #[] (ruleLb P Q k), ptr w.heap.size, .slice a n c, .func (.func 67) #[] #[ptr (E + 2)], .int .i64 j, spV s (.slice a2 m c2), undef, undef, undef, undef, undef, undef, undef, undef, u33, undef, undef, undef], defers := [] })
          ?ax ?assign ?body ?done ?stop
        case ax =>
          rintro j a' ⟨⟩ X Y row ⟨s, a2, m, c2, p, h1, h2, h3, h4⟩ hg hrow
          exact ⟨s, a2, m, c2, p, h1, ownFrom_block p (fun _ : Unit => _) 32 _ () X Y row h2 hg hrow, h3, h4⟩
        case assign =>
          intro l j X K hj hI hK
          rw [allRow_len] at hj
          obtain ⟨⟨s, v⟩, hx⟩ := sps_i (L := L) (i := j) hj
          rw [allRow_at hx]
          unfold spV
          obtain ⟨a2, c2, e2, -⟩ := h.2 _ (List.mem_of_getElem? hx)
          dsimp only at e2
          obtain ⟨m, hmm⟩ : ∃ m, s.cs.length = m := ⟨_, rfl⟩
          rw [hmm] at e2
          subst e2
          have hk1 := kept_new X (.cells #[.bool s.neg, .int .i64 s.kind, .int .i64 s.min, .int .i64 s.max, .bool s.strict, .slice a2 m c2] 32)
          have hI1 := hI.later hk1
          have hsp := SpBox.new X s (.slice a2 m c2)
          have hlt := (Array.getElem?_eq_some_iff.1 hI.2.2.2.1).1
          replace hx := Lib.hid hx
          clear hmm
          gi_wp2
          exact hK _ _ (keeps_of_below hk1) (KeepsT.of_below hk1) hI1 ⟨s, _, _, _, _, hx.out, hsp, hlt, rfl⟩
        case body =>
          rintro l j a' X hj hI ⟨s, a2, m, c2, p, hx, hsp, hp, rfl⟩
          have hCB := hI.ckb hl h
          have hss := map_fst hx
          have hrs := right_step hR.out hss
          have hC := rule_anyM k hk7 j P Q A a n c win L s a2 m c2 X hx (by omega) hrs hCB.2.2.2.2
          obtain ⟨q0, q1, q2, q3, q4, q5⟩ := hsp.cells
          have b5 := hI.2.2.2.2.2.2.2.1.cell
          have b6 : X.cell? ⟨E + 1, 0, none⟩ = some (.func (.func (ruleG k)) #[] (ruleLb P Q k)) := by have := hI.2.2.2.2.2.2.2.2.1; simp [World.cell?, this]
          have hlat := Lib.hid (fun Y (hY : Below X.heap.size X Y) => hI.later hY)
          have hall := Lib.hid hI.2.2.2.2.2.2.2.2.2.2.2.2
          cases hok : ruleB (L.map (·.1)) win k j s with
          | true =>
            rw [hok] at hC
            have hnx : Hid (∀ i t, i < j + 1 → (L.map (·.1))[i]? = some t → ruleB (L.map (·.1)) win k i t = true) := fun i t hi ht => by
              by_cases e : i = j
              · subst e; rw [hss] at ht; cases ht; exact hok
              · exact hall.out i t (by omega) ht
            clear hok hss hrs hx hsp hI hCB hT
            replace hC := Lib.hid hC
            have hk' : k = 0 ∨ k = 1 ∨ k = 2 ∨ k = 3 ∨ k = 4 ∨ k = 5 ∨ k = 6 := by omega
            clear hall b5 hkept
            rcases hk' with rfl | rfl | rfl | rfl | rfl | rfl | rfl
            all_goals
              dsimp only [ruleG, ruleLb] at hC b6
              gi_wp2_with fail
              refine ⟨trivial, ((callsIn_wide (n := 6)).2 hC.out).mono ?_⟩
              rintro e w6 ⟨rfl, hb6⟩
              have hI6 := hlat.out _ hb6
              clear hC b6 hlat q0 q1 q2 q3 q4 q5
              gi_wp2
              exact ⟨keeps_of_below hb6, KeepsT.of_below hb6, hI6.1, hI6.2.1, hI6.2.2.1, hI6.2.2.2.1, hI6.2.2.2.2.1, hI6.2.2.2.2.2.1, hI6.2.2.2.2.2.2.1, hI6.2.2.2.2.2.2.2.1, hI6.2.2.2.2.2.2.2.2.1, hI6.2.2.2.2.2.2.2.2.2.1, hI6.2.2.2.2.2.2.2.2.2.2.1, hI6.2.2.2.2.2.2.2.2.2.2.2.1, hnx.out⟩
          | false =>
            rw [hok] at hC
            have hTT := hT.out
            rw [checkT_bad hR.out hk7 hkept hss hok hall.out] at hTT
            simp only [Prod.mk.injEq] at hTT
            obtain ⟨rfl, rfl, rfl⟩ := hTT
            clear hok hss hrs hx hsp hI hCB hT
            replace hC := Lib.hid hC
            have hk' : k = 0 ∨ k = 1 ∨ k = 2 ∨ k = 3 ∨ k = 4 ∨ k = 5 ∨ k = 6 := by omega
            clear hall hkept b5
            have hk0 : (0 : Int) ≤ k := by omega
            generalize hkk : (k : Int) = kk at *
            replace hkk := Lib.hid hkk
            rcases hk' with rfl | rfl | rfl | rfl | rfl | rfl | rfl
            all_goals
              dsimp only [ruleG, ruleLb] at hC b6
              gi_wp2_with fail
              refine ⟨trivial, ((callsIn_wide (n := 6)).2 hC.out).mono ?_⟩
              rintro e w6 ⟨rfl, hb6⟩
              have hI6 := hlat.out _ hb6
              have c5 := hI6.2.2.2.2.2.2.2.1.cell
              rw [hkk.out] at c5
              obtain ⟨hd3, hB3, k1, k2, k3⟩ := three_set hI6.2.2.2.2.2.2.2.2.2.2.2.1 hI6.2.1 hI6.2.2.1 hI6.2.2.2.1 hI6.2.2.2.2.2.2.2.2.2.2.1 (kk + 1) j 110
              have c1 := hI6.2.1.cell
              have f1 := hI6.2.1.frozen
              have c2 := hI6.2.2.1.cell
              have f2 := hI6.2.2.1.frozen
              have c3 := hI6.2.2.2.1.cell
              have f3 := hI6.2.2.2.1.frozen
              have hks : KeepsFrom W0.heap.size w6 (((w6.setCell ⟨w.heap.size + 1, 0, none⟩ (.int .i64 (kk + 1))).setCell ⟨w.heap.size + 2, 0, none⟩ (.int .i64 j)).setCell ⟨w.heap.size + 3, 0, none⟩ (.int .i64 110)) := (((KeepsOthers.setCell _ _ _).trans (KeepsOthers.setCell _ _ _)).trans (KeepsOthers.setCell _ _ _)).from _
              replace hks := Lib.hid hks
              replace hd3 := Lib.hid hd3
              replace hB3 := Lib.hid hB3
              replace k1 := Lib.hid k1
              replace k2 := Lib.hid k2
              replace k3 := Lib.hid k3
              replace hb6 := Lib.hid hb6
              clear hC b6 hlat q0 q1 q2 q3 q4 q5 hI6
              gi_wp2
              refine wpIn_goto ?_
              exact ⟨(keeps_of_below hb6.out).trans hks.out, rfl, k1.out, k2.out, k3.out, hB3.out, hd3.out⟩
        case done =>
          rintro D X hD hI hK
          have hdX := hI.2.2.2.2.2.2.2.2.2.2.2.1.more (D := D) (by omega) hK (fun D' hD' => by have := hdW0 D' hD'; omega)
          have hCB := hI.ckb hl h
          have hall := hI.2.2.2.2.2.2.2.2.2.2.2.2
          rw [allRow_len] at hall
          have hnx : Hid (∀ j, j < k + 1 → KeptAll (L.map (·.1)) win j) := fun j hj => by
            by_cases e : j = k
            · subst e; exact fun i s hs => hall i s (by have := (List.getElem?_eq_some_iff.1 hs).1; simpa using this) hs
            · exact hkept j (by omega)
          have hB := hI.2.2.2.2.2.2.2.2.2.2.1
          clear hall hT hI
          go_wp2
          rw [show (k : Int) + 1 = ((k + 1 : Nat) : Int) by push_cast; rfl]
          exact ⟨⟨k + 1, _, _, _, _, _, _, _, _, _, _, _, by omega, rfl, hdX, hCB, hB, hnx.out⟩, by simp [intOf]; omega⟩
        case stop =>
          rintro D c' X hD ⟨rfl, h1, h2, h3, hB, hd'⟩ hK
          have hdX := hd'.more (D := D) (by omega) hK (fun D' hD' => by have := hdW0 D' hD'; omega)
          refine wpIn_goto ?_
          exact ⟨rfl, _, _, _, _, _, _, _, _, _, _, _, _, _, _, _, _, _, _, _, _, _, _, rfl, hdX, h1, h2, h3, hB⟩
      · obtain rfl : k = 7 := by omega
        have hTT := hT.out
        rw [checkT_ok hR.out hkept] at hTT
        simp only [Prod.mk.injEq] at hTT
        obtain ⟨rfl, rfl, rfl⟩ := hTT
        obtain ⟨h1, h2, h3, h4, h5⟩ := hCk
        have f1 := h2.frozen
        have f2 := h3.frozen
        have f3 := h4.frozen
        have c1 := h2.cell
        have c2 := h3.cell
        have c3 := h4.cell
        obtain ⟨hd3, hB3, k1, k2, k3⟩ := three_set hd h2 h3 h4 hBk 0 0 0
        have x2 := (boxed_far h3 (show w.heap.size + 2 ≠ w.heap.size + 1 by omega) 0 (.int .i64 0)).frozen
        clear hCB hB6
        go_wp2
        rw [jump_ret]
        exact ck_end _ ds rfl rfl rfl hd3 k1 k2 k3 hB3
  · rintro a' W ⟨u0, u1, u5, u6, u7, u8, u9, u10, u11, u12, u13, u14, u15, u16, u17, u18, u19, u20, u21, u22, u33, ds, rfl, hd, h1, h2, h3, hB⟩
    have c1 := h1.cell
    have f1 := h1.frozen
    have c2 := h2.cell
    have f2 := h2.frozen
    have c3 := h3.cell
    have f3 := h3.frozen
    go_wp2
    go_region
    go_wp2
    rw [jump_ret]
    obtain ⟨hd3, hB3, k1, k2, k3⟩ := three_set hd h1 h2 h3 hB r1 r2 r3
    exact ck_end _ ds rfl rfl rfl (hd3.keeps (fun D _ _ h => h)) k1 k2 k3 hB3.drew
theorem check_VM {v : Value} {L : List (Sp × Value)} (win : Int) (hS : ∀ x ∈ L, x.1.cs.length ≤ 9223372036854775807) (ho : OpsOk L) (w : World) (h : SpsL w v L) :
    Calls Try.prog 31 #[ptV v win] w fun e w' => e = .returned (.tuple #[.int .i64 (checkT (L.map (·.1)) win).1, .int .i64 (checkT (L.map (·.1)) win).2.1, .int .i64 (checkT (L.map (·.1)) win).2.2]) ∧ Below w.heap.size w w' := by
  obtain ⟨a, c, rfl⟩ := h.lit rfl
  exact check_LM a _ c win L hS ho w rfl h
theorem may_VM {v : Value} {L : List (Sp × Value)} (win : Int) (hS : ∀ x ∈ L, x.1.cs.length ≤ 9223372036854775807) (ho : OpsOk L) (w : World) (h : SpsL w v L) :
    Calls Try.prog 21 #[ptV v win] w fun e w' => e = .returned (.bool (mayB (L.map (·.1)) win)) ∧ Below w.heap.size w w' := by
  have hb := Lib.hid (kept_new w (.cells #[v, .int .i64 win] 24))
  have hA := check_VM win hS ho _ (h.later hb.out)
  have c0 := (PtBox.new w v win).c0
  have c1 := (PtBox.new w v win).c1
  unfold mayB
  obtain ⟨a, c, rfl⟩ := h.lit rfl
  obtain ⟨r1, r2, r3, hT⟩ : ∃ r1 r2 r3, checkT (L.map (·.1)) win = (r1, r2, r3) := ⟨_, _, _, rfl⟩
  rw [hT] at hA ⊢
  replace hA := Lib.hid hA
  clear h hS ho hT
  dsimp only at hA ⊢
  generalize L.length = n at *
  go_enter Try.func21, Try.ntmps21
  go_wp2_with ((with_reducible refine hA.out.mono ?_); rintro e w2 ⟨rfl, hb2⟩)
  go_ret
  exact ⟨rfl, kept_trans hb.out hb2⟩
theorem great_not {ss : List Sp} {win : Int} (h : great ss = true) : mayB ss win = false := by
  cases hm : mayB ss win with
  | false => rfl
  | true =>
    obtain ⟨hr, hk⟩ := may_right hm
    have hG := may_good hm
    have h7 : ∀ s ∈ ss, s.cs.length ≤ 4 := fun s hs => by
      obtain ⟨i, hi⟩ := List.getElem?_of_mem hs
      have := hk 6 (by omega) i s hi
      simp [ruleB, rule7] at this
      exact this.1
    have : great ss = false := by
      unfold great
      have h1 : (ss.take 41).any (fun s => decide (20 < s.cs.length)) = false := by
        rw [List.any_eq_false]
        intro s hs
        have := h7 s (List.mem_of_mem_take hs)
        simp; omega
      have h2 := hG.len6
      rw [h1, decide_eq_false (by omega)]; rfl
    rw [this] at h; cases h
/-- What stands at the end of a pattern that is too great: nothing. -/
theorem after_M {v : Value} {L : List (Sp × Value)} (win : Int) (hS : ∀ x ∈ L, x.1.cs.length ≤ 9223372036854775807) (ho : OpsOk L) (hl : L.length ≤ maxLen) (hm : mayB (L.map (·.1)) win = false) (w : World) (h : SpsL w v L) :
    Calls Try.prog 15 #[ptV v win] w fun e w' => e = .returned (.slice none 0 0) ∧ Below w.heap.size w w' := by
  have hb := Lib.hid (kept_new w (.cells #[v, .int .i64 win] 24))
  have hM := Lib.hid (may_VM win hS ho _ (h.later hb.out))
  rw [hm] at hM
  have hpt := PtBox.new w v win
  have c0 := hpt.c0
  have c1 := hpt.c1
  obtain ⟨n, hn⟩ : ∃ n, L.length = n := ⟨_, rfl⟩
  obtain ⟨a, c, rfl⟩ := h.lit hn
  clear h hS ho hm hn
  go_enter Try.func15, Try.ntmps15
  go_wp2
  refine wp_scope_jumps 0 (fun a' W => Below w.heap.size w W ∧ ∃ (u0 u1 u2 u3 u4 u5 u6 u7 u8 u9 u10 u11 u12 u13 u14 u15 u16 : Value),
    a' = { tmps := #[u0, u1, u2, u3, u4, u5, u6, u7, u8, u9, u10, u11, u12, u13, u14, u15, u16], defers := [] }) (fun _ _ => 0) rfl ?_ ?_
  · go_wp2_with ((with_reducible refine hM.out.mono ?_); rintro e w2 ⟨rfl, hb2⟩)
    refine wp_goto ?_
    exact ⟨rfl, kept_trans hb.out hb2, _, _, _, _, _, _, _, _, _, _, _, _, _, _, _, _, _, rfl⟩
  · rintro ⟨t, d⟩ w2 ⟨hB, u0, u1, u2, u3, u4, u5, u6, u7, u8, u9, u10, u11, u12, u13, u14, u15, u16, he⟩
    cases he
    go_wp2
    rw [jump_ret]
    go_ret
    exact ⟨rfl, hB⟩
end Go.Proofs.Ytfkdgaeiiejjlaa.Tree
/- UnrollGuards' walk. -/
namespace Go.Proofs.Ytfkdgaeiiejjlaa.Tree
open Go.ChangeShapes Go.WideShapes Go.ChangeAt Go.RowKit
set_option linter.unusedVariables false
set_option linter.unusedSimpArgs false
set_option maxRecDepth 100000
attribute [local go_sem] Oper.semAt_some
/-- How often each number was told: a row of the law's own. -/
def SeI (W5 : World) (gs n : Nat) (xs : List Int) (X : World) : Prop := X.ownsRow W5.heap.size 3 1 (.slice (some ⟨gs, 0, none⟩) n n) n (ints xs) ∧ Below W5.heap.size W5 X
theorem SeI.later {W5 X Y : World} {gs n : Nat} {xs : List Int} (h : SeI W5 gs n xs X) (hb : Below X.heap.size X Y) : SeI W5 gs n xs Y := ⟨row_later h.1 hb, kept_trans h.2 hb⟩
theorem SeI.set {W5 X : World} {gs n : Nat} {xs : List Int} (h : SeI W5 gs n xs X) (j : Nat) (x : Int) : SeI W5 gs n (xs.set j x) (X.setCell ⟨gs, j, none⟩ (.int .i64 x)) := by
  refine ⟨?_, h.2.setCell (p := ⟨gs, j, none⟩) (own_ge h.1 gs rfl) _⟩
  have := (h.1.stored j (.int .i64 x)).1
  rw [show ints (xs.set j x) = (ints xs).set j (.int .i64 x) from by simp [ints, List.map_set]]
  exact this
theorem SeI.cell {W5 X : World} {gs n : Nat} {xs : List Int} (h : SeI W5 gs n xs X) {j : Nat} {x : Int} (hj : j < n) (hx : xs[j]? = some x) : X.cell? ⟨gs, j, none⟩ = some (.int .i64 x) ∧ X.frozen? ⟨gs, j, none⟩ = false := by
  refine ⟨(h.1.cellAt j (by omega)).trans ?_, h.1.frozenAt j⟩
  simp [ints, hx]
theorem rowsP_ne {ss : List Sp} (h : GoodP ss) : 1 ≤ (rowsP ss).length := by
  obtain ⟨q, hq⟩ : ∃ q, isL (posS ss 0) q = true := by
    have : ∀ (P : List (Nat × Sp)) (b : Nat), StUp P b → ∃ q, isL P q = true := by
      intro P
      induction P with
      | nil => intro b _; exact ⟨[], rfl⟩
      | cons x P ih =>
        intro b hb
        obtain ⟨t, ht⟩ := ih _ hb.2.2.2.2
        exact ⟨_, (isL_step (hb.mono (Nat.zero_le _)) _).2 ⟨0, by have := hb.2.2.1; omega, t, ht, rfl⟩⟩
    exact this _ 0 h.rising
  have := (h.mem q).2 hq
  exact List.length_pos_of_mem this
set_option maxHeartbeats 4000000 in
theorem guardsEarly (hwk : WakesU) (v : Value) (L : List (Sp × Value)) (win nr : Int) (w : World) (h : SpsL w v L) (hl : L.length ≤ maxLen) (hq : ∀ x ∈ L, InSp w x) (hnr : (Lit.int .i64 nr).wf = true) (hmB : mayB (L.map (·.1)) win = false) :
    Calls Try.prog 4 #[ptV v win, .int .i64 nr] w fun e w' => e = .returned (.bool true) ∧ Below w.heap.size w w' := by
  have hb := kept_new w (.cells #[v, .int .i64 win] 24)
  have hG := great_W win _ hl (h.later hb)
  have hW := Lib.hid hwk
  have hp : PK w v win (w.alloc (.cells #[v, .int .i64 win] 24)) := ⟨PtBox.new w _ _, hb⟩
  have c0 := hp.1.c0
  have c1 := hp.1.c1
  obtain ⟨n, hn⟩ : ∃ n, L.length = n := ⟨_, rfl⟩
  obtain ⟨a, c, rfl⟩ := h.lit hn
  have hAf : Hid (mayB (L.map (·.1)) win = false → ∀ X, PK w (.slice a n c) win X → Calls Try.prog 15 #[ptV (.slice a n c) win] X fun e Y => e = .returned (.slice none 0 0) ∧ Below X.heap.size X Y) := fun hm X hX =>
    after_M win (fun x hx => by have := (hq x hx).2.1; unfold maxLen at this; exact this) (fun x hx c hc => ((hq x hx).2.2 c hc).1) hl hm X (h.later hX.2)
  obtain ⟨G, hg⟩ : ∃ G, great (L.map (·.1)) = G := ⟨_, rfl⟩
  rw [hg] at hG
  have hn0 : (0 : Int) ≤ n := by omega
  cases G with
  | true =>
    have hA := Lib.hid (hAf.out (great_not hg))
    replace hG := Lib.hid hG
    clear h hl hg hwk hq hn hb hAf hmB
    go_enter Try.func4, Try.ntmps4
    go_upto_region 2 with ((with_reducible refine hG.out.mono ?_); rintro e w2 ⟨rfl, hb2⟩)
    have hp2 : PK w (.slice a n c) win w2.drew := (hp.later hb2).later (below_drew w2)
    clear c0 c1 hG hp hb2
    have c0 := hp2.1.c0
    have c1 := hp2.1.c1
    have Q1 := Lib.hid (hA.out _ hp2)
    go_region_with (first
      | ((with_reducible refine Q1.out.mono ?_); rintro e wa ⟨rfl, hba⟩; have hpa := hp2.later hba; have d0 := hpa.1.c0; have d1 := hpa.1.c1)
      | ((with_reducible refine (hW.out _).mono ?_); rintro e w3 ⟨rfl, hb3⟩))
    all_goals
      go_wp2_with fail
      go_ret
      exact ⟨rfl, kept_trans hpa.2 hb3⟩
  | false =>
    have hMy : Hid (∀ X, PK w (.slice a n c) win X → Calls Try.prog 10 #[ptV (.slice a n c) win] X fun e Y => e = .returned (.bool (mayB (L.map (·.1)) win)) ∧ Below X.heap.size X Y) := fun X hX => may_R win hg X (h.later hX.2)
    have hM := hmB
    · skip
      have hA := Lib.hid (hAf.out hM)
      rw [hM] at hMy
      replace hG := Lib.hid hG
      clear h hl hg hwk hq hn hb hAf hM hmB
      go_enter Try.func4, Try.ntmps4
      go_upto_region 2 with (first
        | ((with_reducible refine hG.out.mono ?_); rintro e w1 ⟨rfl, hb1⟩; have hp1 := hp.later hb1; have Q0 := Lib.hid (hMy.out _ hp1); have d0 := hp1.1.c0; have d1 := hp1.1.c1)
        | ((with_reducible refine Q0.out.mono ?_); rintro e w2 ⟨rfl, hb2⟩))
      have hp2 : PK w (.slice a n c) win w2.drew := (hp1.later hb2).later (below_drew w2)
      clear c0 c1 d0 d1 hG hp hp1 hb2 hMy Q0
      have c0 := hp2.1.c0
      have c1 := hp2.1.c1
      have Q1 := Lib.hid (hA.out _ hp2)
      go_region_with (first
        | ((with_reducible refine Q1.out.mono ?_); rintro e wa ⟨rfl, hba⟩; have hpa := hp2.later hba; have d0 := hpa.1.c0; have d1 := hpa.1.c1)
        | ((with_reducible refine (hW.out _).mono ?_); rintro e w3 ⟨rfl, hb3⟩))
      all_goals
        go_wp2_with fail
        go_ret
        exact ⟨rfl, kept_trans hpa.2 hb3⟩
theorem rem_idx (nr : Int) (m : Nat) (h1 : 1 ≤ m) (h2 : m ≤ 1000) : ∃ k : Nat, k < m ∧ (wrap64 (nr.tmod m + m)).tmod m = k := by
  have a1 := Int.tmod_lt_of_pos nr (show (0 : Int) < m by omega)
  have a2 := Int.lt_tmod_of_pos nr (show (0 : Int) < m by omega)
  generalize nr.tmod m = r at *
  have e : wrap64 (r + m) = r + m := by unfold wrap64; omega
  rw [e, Int.tmod_eq_emod_of_nonneg (by omega)]
  have b1 := Int.emod_nonneg (r + m) (show (m : Int) ≠ 0 by omega)
  have b2 := Int.emod_lt_of_pos (r + m) (show (0 : Int) < m by omega)
  exact ⟨((r + m) % m).toNat, by omega, by omega⟩
theorem rows_get {W : World} {base : Nat} {v : Value} {R : List (List Int)} (h : OwnRows W base v R) {k : Nat} {r : List Int} (hr : R[k]? = some r) :
    ∃ b c u, v = .slice (some ⟨b, 0, none⟩) R.length c ∧ W.cell? ⟨b, k, none⟩ = some u ∧ W.ownsRow base 3 1 u r.length (ints r) := by
  obtain ⟨vs, h1, h2⟩ := h
  have hl : vs.length = R.length := by have := h1.1; simpa using this
  have hk := (List.getElem?_eq_some_iff.1 hr).1
  obtain ⟨u, hu⟩ : ∃ u, vs[k]? = some u := ⟨_, List.getElem?_eq_getElem (by omega)⟩
  rcases h1.2 with ⟨e, h0⟩ | ⟨g, cap, cur, e, hb, hg, hn, hm, hs, ht⟩
  · omega
  · refine ⟨g, cap, u, e, ?_, h2 k u r hu hr⟩
    rw [← ht] at hu
    have hkk : k < R.length * 1 := by omega
    rw [List.getElem?_take_of_lt hkk] at hu
    simp only [World.cell?, hg]
    simpa using hu
set_option maxHeartbeats 4000000 in
theorem guardsMain (hwk : WakesU) (v : Value) (L : List (Sp × Value)) (win nr : Int) (w : World) (h : SpsL w v L) (hl : L.length ≤ maxLen) (hq : ∀ x ∈ L, InSp w x) (hnr : (Lit.int .i64 nr).wf = true) (hg : great (L.map (·.1)) = false) (hM : mayB (L.map (·.1)) win = true) :
    Calls Try.prog 4 #[ptV v win, .int .i64 nr] w fun e w' => e = .returned (.bool true) ∧ Below w.heap.size w w' := by
  have hb := kept_new w (.cells #[v, .int .i64 win] 24)
  have hG := great_W win _ hl (h.later hb)
  have hW := Lib.hid hwk
  have hp : PK w v win (w.alloc (.cells #[v, .int .i64 win] 24)) := ⟨PtBox.new w _ _, hb⟩
  have c0 := hp.1.c0
  have c1 := hp.1.c1
  obtain ⟨n, hn⟩ : ∃ n, L.length = n := ⟨_, rfl⟩
  obtain ⟨a, c, rfl⟩ := h.lit hn
  rw [hg] at hG
  have hn0 : (0 : Int) ≤ n := by omega
  have hMy : Hid (∀ X, PK w (.slice a n c) win X → Calls Try.prog 10 #[ptV (.slice a n c) win] X fun e Y => e = .returned (.bool (mayB (L.map (·.1)) win)) ∧ Below X.heap.size X Y) := fun X hX => may_R win hg X (h.later hX.2)
  have hok := unOk_of hg hq
  have hGd := may_good hM
  have hRw : Hid (∀ X, PK w (.slice a n c) win X → Calls Try.prog 16 #[ptV (.slice a n c) win] X fun e Y => ∃ u, e = .returned u ∧ OwnRows Y X.heap.size u (rowsP (L.map (·.1))) ∧ Below X.heap.size X Y) := fun X hX => by
    have := refRows_R win hg X (h.later hX.2)
    unfold rowsR at this
    rw [if_pos hM] at this
    exact this
  have hGu : Hid (∀ X, PK w (.slice a n c) win X → ∀ (rv : Value) (row : List Int) (place : Int), row.length ≤ 1000000 → NmsC X rv row → Calls Try.prog 17 #[ptV (.slice a n c) win, rv, .int .i64 place] X fun e Y => ∃ u, e = .returned u ∧ Y.ownsRow X.heap.size 3 1 u (guardsL (L.map (·.1)) win row place).length (ints (guardsL (L.map (·.1)) win row place)) ∧ Below X.heap.size X Y) := fun X hX rv row place hr hrv => guards_V win hok rv row place hr X (h.later hX.2) hrv
  have hAl : Hid (∀ X, PK w (.slice a n c) win X → Calls Try.prog 15 #[ptV (.slice a n c) win] X fun e Y => ∃ u, e = .returned u ∧ Y.ownsRow X.heap.size 3 1 u (afterL (L.map (·.1)) win).length (ints (afterL (L.map (·.1)) win)) ∧ Below X.heap.size X Y) := fun X hX => after_V win hok X (h.later hX.2)
  rw [hM] at hMy
  have hn6 : n ≤ 6 := by have := hGd.len6; simp at this; omega
  have hss : (L.map (·.1)).length = n := by simpa using hn
  have hR1 := rowsP_ne hGd
  have hR2 := (rowsR_bd (L.map (·.1)) win).1
  unfold rowsR at hR2
  rw [if_pos hM] at hR2
  obtain ⟨ss, hss'⟩ : ∃ ss, L.map (·.1) = ss := ⟨_, rfl⟩
  rw [hss'] at hGd hRw hGu hAl hss hR1 hR2 hM
  have hstep := Lib.hid (fun (X : World) (hX : PK w (.slice a n c) win X) (i : Nat) (s : Sp) (sv : Value) (hx : L[i]? = some (s, sv)) => (h.later hX.2).step hn hx)
  have hat : Hid (∀ i, i < n → ∃ s sv, L[i]? = some (s, sv) ∧ stepA ss i = s) := fun i hi => by
    obtain ⟨⟨s, sv⟩, hx⟩ : ∃ x, L[i]? = some x := ⟨_, List.getElem?_eq_getElem (by omega)⟩
    exact ⟨s, sv, hx, stepA_of (by rw [← hss']; simp [hx])⟩
  replace hG := Lib.hid hG
  replace hM := Lib.hid hM
  replace hss := Lib.hid hss
  clear h hl hg hwk hq hn hb hok hss'
  obtain ⟨m, hm⟩ : ∃ m, (rowsP ss).length = m := ⟨_, rfl⟩
  rw [hm] at hR1 hR2
  replace hm := Lib.hid hm
  go_enter Try.func4, Try.ntmps4
  go_upto_region 4 with (first
    | ((with_reducible refine hG.out.mono ?_); rintro e w1 ⟨rfl, hb1⟩; have hp1 := hp.later hb1; have Q0 := Lib.hid (hMy.out _ hp1); have d0 := hp1.1.c0; have d1 := hp1.1.c1)
    | ((with_reducible refine Q0.out.mono ?_); rintro e w2 ⟨rfl, hb2⟩; have hp2 := hp1.later hb2; have Q1 := Lib.hid (hRw.out _ hp2); have e0 := hp2.1.c0; have e1 := hp2.1.c1)
    | ((with_reducible refine Q1.out.mono ?_); rintro e w3 ⟨ua, rfl, hoa, hb3⟩))
  have hp3 := hp2.later hb3
  clear c0 c1 d0 d1 e0 e1 hG hp hp1 hp2 hb1 hb2 hb3 hMy hRw Q0 Q1
  obtain ⟨k0, hk0, hix⟩ := rem_idx nr m hR1 (by omega)
  obtain ⟨q, hq0⟩ : ∃ q, (rowsP ss)[k0]? = some q := ⟨_, List.getElem?_eq_getElem (by rw [hm.out]; exact hk0)⟩
  have hqm : q ∈ rowsP ss := List.mem_of_getElem? hq0
  obtain ⟨bA, ca, rv, rfl, qA, ho⟩ := rows_get hoa hq0
  have hrC := nmsC_own ho
  rw [hm.out] at *
  obtain ⟨lq, hlq⟩ : ∃ lq, q.length = lq := ⟨_, rfl⟩
  obtain ⟨hql1, hql4⟩ := hGd.row_len hqm
  rw [hlq] at hql1 hql4
  obtain ⟨ar, cr, rfl, hcr, hcA⟩ := hrC
  have hk0i : (k0 : Int) < m := by omega
  have hm0 : ¬ (m : Int) = 0 := by omega
  rw [hlq] at qA hcr
  have hrC : Hid (∀ X, Below w3.heap.size w3 X → NmsC X (.slice ar lq cr) q) := fun X hX => ⟨ar, cr, by rw [hlq], by omega, hcA.later hX⟩
  have hrX : Hid (∀ X, Below w3.heap.size w3 X → ∀ k y, q[k]? = some y → ∃ b o, ar = some ⟨b, o, none⟩ ∧ X.cell? ⟨b, o + k, none⟩ = some (.int .i64 y)) := fun X hX k y hy => ints_look (hcA.later hX) hy
  have hPX : Hid (∀ X, Below w3.heap.size w3 X → PK w (.slice a n c) win X) := fun X hX => hp3.later hX
  replace hqm := Lib.hid hqm
  replace hlq := Lib.hid hlq
  clear hq0 ho hcA hoa hGd
  go_upto_region 5 with fail
  clear hix hk0 hk0i qA hm0
  have c0 := hp3.1.c0
  have c1 := hp3.1.c1
  obtain ⟨i0, hi, hz0, hz1, hz2⟩ := info_parts Try.info3
  have hb8 : i0.bytes * n ≤ 281474976710656 := by rw [hz2]; omega
  replace hi := Lib.hid hi
  have hmk : (madeCells (Value.int .i64 0).cells (n * 1)).toList = ints (seenL ss 0) := by rw [made_zero n, seenL_zero, hss.out]; simp [ints]
  replace hmk := Lib.hid hmk
  go_upto_region 6 with (refine wpList_make_full _ rfl _ _ 25 rfl w3.heap.size 3 i0 (.int .i64 0) 1 Try.underlying25 hi.out hz0 hz1 .i64 .i64 _ _ n rfl rfl rfl rfl hb8 (by unfold maxLen; omega) (Nat.le_refl _) ?_; intro w5 hown hgrow)
  rw [hmk.out] at hown
  have hS0 : Hid (SeI w3 w3.heap.size n (seenL ss (frL q 0)) w5) := ⟨hown, below_grown hgrow⟩
  clear c0 c1 hp3 hown hgrow hi hz0 hz1 hz2 hb8 hmk
  obtain ⟨gs, hgs⟩ : ∃ gs, w3.heap.size = gs := ⟨_, rfl⟩
  rw [hgs] at hS0 ⊢
  replace hgs := Lib.hid hgs
  have hmx : Try.prog.follows .mixedOrders = true := by kernel_rfl
  go_upto_block 0 with fail
  go_cut [8, 9, 10] from 50 to 120 (fun u8 u9 u10 wx => Hid (SeI w3 gs n (seenL ss (frL q lq)) wx))
  case first =>
    clear hAl hstep hat
    go_wp2_with fail
    go_loopw [8] (fun u8 wr => ∃ k : Nat, k ≤ lq ∧ u8 = .int .i64 k ∧ Hid (SeI w3 gs n (seenL ss (frL q k)) wr)) (fun u8 _ => lq - (intOf u8).toNat)
    case atStart => exact ⟨0, Nat.zero_le _, rfl, hS0⟩
    case round =>
      clear hS0
      obtain ⟨k, hk, rfl, hS⟩ := hrel
      by_cases hlt : k < lq
      · have hlti : (k : Int) < lq := by omega
        obtain ⟨y, hy⟩ : ∃ y, q[k]? = some y := ⟨_, List.getElem?_eq_getElem (by have := hlq.out; omega)⟩
        obtain ⟨i, d, rfl, hil, hgu, hx, hse, hpr, hz⟩ := place_at hM.out hqm.out hy
        rw [hss.out] at hil
        have hd6 : d ≤ 6 := by
          rcases Nat.eq_zero_or_pos d with h | h
          · omega
          · have := (hx (d - 1) (by omega)).2; omega
        have hPw := hPX.out _ hS.out.2
        have c0 := hPw.1.c0
        have c1 := hPw.1.c1
        have hGc := hGu.out _ hPw (.slice ar lq cr) q k (by have := hlq.out; omega) (hrC.out _ hS.out.2)
        rw [hgu, fromL_len] at hGc
        obtain ⟨f, hf⟩ : ∃ f, frL q k = f := ⟨_, rfl⟩
        rw [hf] at hGc hx hse hpr hS
        replace hGc := Lib.hid hGc
        replace hy := Lib.hid hy
        replace hx := Lib.hid hx
        replace hse := Lib.hid hse
        replace hpr := Lib.hid hpr
        replace hz := Lib.hid hz
        have hgw := (own_ge hS.out.1 gs rfl)
        have hgl := (hS.out.1.lt gs rfl).2
        clear hgu hf hPw
        go_wp2_with ((with_reducible refine hGc.out.mono ?_); rintro e w6 ⟨gv, rfl, hog, hb6⟩; obtain ⟨ag, cg, rfl, -⟩ := cells_of_row hog)
        have hS6 := Lib.hid (show SeI w3 gs n (seenL ss (f + 0)) w6 from hS.out.later hb6)
        have hog' : Hid (w6.ownsRow (gs + 1) 3 1 (.slice ag d cg) d (ints (fromL f d))) := row_base hog hgl
        clear hog hb6 c0 c1 hGc hS hgw hgl hGu
        go_loopw [10] (fun u10 wr => ∃ x : Nat, x ≤ d ∧ u10 = .int .i64 x ∧ Hid (SeI w3 gs n (seenL ss (f + x)) wr) ∧ Hid (wr.ownsRow (gs + 1) 3 1 (.slice ag d cg) d (ints (fromL f d)))) (fun u10 _ => d - (intOf u10).toNat)
        case atStart => exact ⟨0, Nat.zero_le _, rfl, hS6, hog'⟩
        case round =>
          clear hS6 hog'
          obtain ⟨x, hxd, rfl, hS, ho⟩ := hrel
          by_cases hlx : x < d
          · have hlxi : (x : Int) < d := by omega
            obtain ⟨hng, hfi⟩ := hx.out x hlx
            have hk1 : 1 ≤ k := by
              rcases Nat.eq_zero_or_pos k with h | h
              · have := hz.out h; omega
              · exact h
            have hp := hpr.out hk1
            obtain ⟨k1, hk1'⟩ : ∃ k1, k = k1 + 1 := ⟨k - 1, by omega⟩
            have hk1e : k - 1 = k1 := by omega
            rw [hk1e] at hp
            have hko : (k : Int) - 1 = (k1 : Int) := by omega
            have hk1l : (k1 : Int) < lq := by omega
            have hk1ln : k1 < lq := by omega
            obtain ⟨z, hzz⟩ : ∃ z, f + x = z := ⟨_, rfl⟩
            have hgx : (fromL (f : Int) d)[x]? = some (z : Int) := by simp [fromL, hlx]; omega
            rw [hzz] at hng hfi hS
            have hzn : z < n := by omega
            have hs1 := seenL_next (ss := ss) (f := z) (by rw [hss.out]; exact hzn)
            have hs2 := seenL_neg (ss := ss) (f := z) (by rw [hss.out]; exact hzn) hng
            have hB := hS.out.2
            obtain ⟨pp, hpp⟩ : ∃ pp, (f : Int) - 1 = pp := ⟨_, rfl⟩
            rw [hpp] at hp
            have hpz : ¬ (z : Int) ≤ pp := by omega
            have hiz : ¬ (i : Int) ≤ z := by omega
            have hnz : ¬ (n : Int) ≤ z := by omega
            have hz0 : ¬ (z : Int) < 0 := by omega
            have hk0 : ((k : Int) == 0) = false := by simp; omega
            obtain ⟨br, orr, rfl, q1⟩ := hrX.out _ hB k1 pp hp
            obtain ⟨br', orr', e', q2⟩ := hrX.out _ hB k _ hy.out
            cases e'
            obtain ⟨ag', cg', e', hcg⟩ := cells_of_row ho.out
            cases e'
            obtain ⟨bg, og, rfl, q3⟩ := ints_look hcg hgx
            have hki : (k : Int) < lq := hlti
            replace hB := Lib.hid hB
            replace hk1' := Lib.hid hk1'
            replace hs1 := Lib.hid hs1
            replace hs2 := Lib.hid hs2
            replace hgx := Lib.hid hgx
            replace hzz := Lib.hid hzz
            clear hcg hp hpp hng hk1e hpr hz
            go_wp2_with fail
            have hb1 : decide ((z : Int) < 0) = false := decide_eq_false (by omega)
            have hb2 : decide ((n : Int) ≤ z) = false := decide_eq_false (by omega)
            have hb4 : decide ((z : Int) ≤ pp) = false := decide_eq_false (by omega)
            have hb5 : decide ((i : Int) ≤ z) = false := decide_eq_false (by omega)
            have hw1 : IntKind.wrap .i64 ((k : Int) - 1) = (k1 : Int) := by rw [IntKind.wrap_i64]; omega
            have hw2 : IntKind.wrap .i64 (k1 : Int) = (k1 : Int) := by rw [IntKind.wrap_i64]; omega
            go_quiet (fail)
            clear hb1 hb2 hb4 hb5 hw1 hw2
            go_wp2_with fail
            obtain ⟨X, hX⟩ : ∃ X, wr.drewN nq = X := ⟨_, rfl⟩
            have hS2 : SeI w3 gs n (seenL ss z) X := by rw [← hX]; exact hS.out.later (below_drewN _ _)
            have ho2 : X.ownsRow (gs + 1) 3 1 (.slice (some ⟨bg, og, none⟩) d cg) d (ints (fromL f d)) := by rw [← hX]; exact row_later ho.out (below_drewN _ _)
            rw [hX]
            clear hS ho q1 q2 q3 hB hX
            obtain ⟨ag', cg', e', hcg⟩ := cells_of_row ho2
            cases e'
            obtain ⟨bg', og', e', q3⟩ := ints_look hcg hgx.out
            cases e'
            obtain ⟨hsc, hsf⟩ := hS2.cell hzn hs1.out
            have hnext := hS2.set z 1
            rw [← hs2.out] at hnext
            have hog2 := ownsRow_setCell_below ho2 (a := ⟨gs, z, none⟩) (by simp) (.int .i64 1)
            have d1 : X.drew.cell? ⟨gs, z, none⟩ = some (.int .i64 0) := hsc
            have d2 : X.drew.frozen? ⟨gs, z, none⟩ = false := hsf
            have d3 : X.drew.cell? ⟨bg, og + x, none⟩ = some (.int .i64 z) := q3
            have hw3 : IntKind.wrap .i64 ((0 : Int) + 1) = 1 := by decide
            replace hnext := Lib.hid hnext
            replace hog2 := Lib.hid hog2
            clear hcg hS2 ho2 hsc hsf q3
            refine wp_region_still_tail 14 hmx (by kernel_rfl) ?_
            change wpStill _ _ X.drew _ _ _
            simp only [List.take_succ_cons, List.take_zero, List.drop_succ_cons, List.drop_zero]
            repeat still_step
            refine wpStill_nil ?_
            change wpList _ _ _ _ _ X.drew
            go_wp2_with fail
            go_roundw
            case rel => exact ⟨x + 1, hlx, by go_num, by rw [← Nat.add_assoc, hzz.out]; exact Lib.hid (hnext.out.later (below_drew _)), Lib.hid (row_later hog2.out (below_drew _))⟩
            case measure => simp [intOf]; omega
          · obtain rfl : x = d := by omega
            rw [hse.out] at hS
            clear ho hx
            go_wp2_with fail
            go_roundw
            case rel => exact ⟨k + 1, hlt, by go_num, hS⟩
            case measure => simp [intOf]; omega
      · obtain rfl : k = lq := by omega
        clear hGu
        go_wp2_with fail
        go_meet
        exact hS
  case rest =>
  obtain ⟨d, haf, hfd, hx, -, hpr⟩ := after_at hM.out hqm.out
  rw [hlq.out] at haf hfd hpr hx
  rw [hss.out] at hfd
  have hPw := hPX.out _ hcut.out.2
  have c0 := hPw.1.c0
  have c1 := hPw.1.c1
  have hAc := hAl.out _ hPw
  rw [haf, fromL_len] at hAc
  obtain ⟨f, hf⟩ : ∃ f, frL q lq = f := ⟨_, rfl⟩
  rw [hf] at hAc hfd hpr hcut hx
  replace hAc := Lib.hid hAc
  replace hx := Lib.hid hx
  have hgl := (hcut.out.1.lt gs rfl).2
  obtain ⟨lq1, hlq1⟩ : ∃ lq1, lq = lq1 + 1 := ⟨lq - 1, by omega⟩
  have hlq1e : lq - 1 = lq1 := by omega
  rw [hlq1e] at hpr
  have hlo : (lq : Int) - 1 = (lq1 : Int) := by omega
  have hl1l : (lq1 : Int) < lq := by omega
  have hl1ln : lq1 < lq := by omega
  replace hpr := Lib.hid hpr
  replace hlq1 := Lib.hid hlq1
  replace hfd := Lib.hid hfd
  have hd6 : d ≤ 6 := by have := hfd.out; omega
  clear hS0 hGu hAl haf hf hPw hlq1e
  go_upto_block 4 with ((with_reducible refine hAc.out.mono ?_); rintro e w6 ⟨gv, rfl, hog, hb6⟩; obtain ⟨ag, cg, rfl, -⟩ := cells_of_row hog)
  have hS6 := Lib.hid (show SeI w3 gs n (seenL ss (f + 0)) w6 from hcut.out.later hb6)
  have hog' : Hid (w6.ownsRow (gs + 1) 3 1 (.slice ag d cg) d (ints (fromL f d))) := row_base hog hgl
  clear hog hb6 c0 c1 hAc hcut hgl
  go_cut [12] from 123 to 169 (fun u12 wx => Hid (SeI w3 gs n (seenL ss n) wx))
  case first =>
    clear hstep hat
    go_wp2_with fail
    go_loopw [12] (fun u12 wr => ∃ x : Nat, x ≤ d ∧ u12 = .int .i64 x ∧ Hid (SeI w3 gs n (seenL ss (f + x)) wr) ∧ Hid (wr.ownsRow (gs + 1) 3 1 (.slice ag d cg) d (ints (fromL f d)))) (fun u12 _ => d - (intOf u12).toNat)
    case atStart => exact ⟨0, Nat.zero_le _, rfl, hS6, hog'⟩
    case round =>
      clear hS6 hog'
      obtain ⟨x, hxd, rfl, hS, ho⟩ := hrel
      by_cases hlx : x < d
      · have hlxi : (x : Int) < d := by omega
        have hng := hx.out x hlx
        have hp := hpr.out
        obtain ⟨z, hzz⟩ : ∃ z, f + x = z := ⟨_, rfl⟩
        have hgx : (fromL (f : Int) d)[x]? = some (z : Int) := by simp [fromL, hlx]; omega
        rw [hzz] at hng hS
        have hzn : z < n := by have := hfd.out; omega
        have hs1 := seenL_next (ss := ss) (f := z) (by rw [hss.out]; exact hzn)
        have hs2 := seenL_neg (ss := ss) (f := z) (by rw [hss.out]; exact hzn) hng
        have hB := hS.out.2
        obtain ⟨pp, hpp⟩ : ∃ pp, (f : Int) - 1 = pp := ⟨_, rfl⟩
        rw [hpp] at hp
        have hpz : ¬ (z : Int) ≤ pp := by omega
        have hnz : ¬ (n : Int) ≤ z := by omega
        have hz0 : ¬ (z : Int) < 0 := by omega
        obtain ⟨br, orr, rfl, q1⟩ := hrX.out _ hB lq1 pp hp
        obtain ⟨ag', cg', e', hcg⟩ := cells_of_row ho.out
        cases e'
        obtain ⟨bg, og, rfl, q3⟩ := ints_look hcg hgx
        replace hB := Lib.hid hB
        replace hs1 := Lib.hid hs1
        replace hs2 := Lib.hid hs2
        replace hgx := Lib.hid hgx
        replace hzz := Lib.hid hzz
        clear hcg hp hpp hng
        go_wp2_with fail
        have hb1 : decide ((z : Int) < 0) = false := decide_eq_false (by omega)
        have hb2 : decide ((n : Int) ≤ z) = false := decide_eq_false (by omega)
        have hb4 : decide ((z : Int) ≤ pp) = false := decide_eq_false (by omega)
        have hw1 : IntKind.wrap .i64 ((lq : Int) - 1) = (lq1 : Int) := by rw [IntKind.wrap_i64]; omega
        have hw2 : IntKind.wrap .i64 (lq1 : Int) = (lq1 : Int) := by rw [IntKind.wrap_i64]; omega
        go_quiet (fail)
        clear hb1 hb2 hb4 hw1 hw2
        go_wp2_with fail
        obtain ⟨X, hX⟩ : ∃ X, wr.drewN nq = X := ⟨_, rfl⟩
        have hS2 : SeI w3 gs n (seenL ss z) X := by rw [← hX]; exact hS.out.later (below_drewN _ _)
        have ho2 : X.ownsRow (gs + 1) 3 1 (.slice (some ⟨bg, og, none⟩) d cg) d (ints (fromL f d)) := by rw [← hX]; exact row_later ho.out (below_drewN _ _)
        rw [hX]
        clear hS ho q1 q3 hB hX
        obtain ⟨ag', cg', e', hcg⟩ := cells_of_row ho2
        cases e'
        obtain ⟨bg', og', e', q3⟩ := ints_look hcg hgx.out
        cases e'
        obtain ⟨hsc, hsf⟩ := hS2.cell hzn hs1.out
        have hnext := hS2.set z 1
        rw [← hs2.out] at hnext
        have hog2 := ownsRow_setCell_below ho2 (a := ⟨gs, z, none⟩) (by simp) (.int .i64 1)
        have d1 : X.drew.cell? ⟨gs, z, none⟩ = some (.int .i64 0) := hsc
        have d2 : X.drew.frozen? ⟨gs, z, none⟩ = false := hsf
        have d3 : X.drew.cell? ⟨bg, og + x, none⟩ = some (.int .i64 z) := q3
        have hw3 : IntKind.wrap .i64 ((0 : Int) + 1) = 1 := by decide
        replace hnext := Lib.hid hnext
        replace hog2 := Lib.hid hog2
        clear hcg hS2 ho2 hsc hsf q3
        refine wp_region_still_tail 14 hmx (by kernel_rfl) ?_
        change wpStill _ _ X.drew _ _ _
        simp only [List.take_succ_cons, List.take_zero, List.drop_succ_cons, List.drop_zero]
        repeat still_step
        refine wpStill_nil ?_
        change wpList _ _ _ _ _ X.drew
        go_wp2_with fail
        go_roundw
        case rel => exact ⟨x + 1, hlx, by go_num, by rw [← Nat.add_assoc, hzz.out]; exact Lib.hid (hnext.out.later (below_drew _)), Lib.hid (row_later hog2.out (below_drew _))⟩
        case measure => simp [intOf]; omega
      · obtain rfl : x = d := by omega
        rw [hfd.out] at hS
        clear ho hx
        go_wp2_with fail
        go_meet
        exact hS
  case rest =>
  clear hS6 hog' hx hpr hfd hlq1 hl1l hl1ln hlo hrX hrC
  have hse := Lib.hid (fun j (hj : j < n) => seenL_end ss (j := j) (by rw [hss.out]; exact hj))
  rw [hss.out] at hse
  go_upto_block 6 with fail
  go_cut [13] from 170 to 194 (fun u13 wx => Hid (SeI w3 gs n (seenL ss n) wx))
  case first =>
    go_wp2_with fail
    go_loopw [13] (fun u13 wr => ∃ i : Nat, i ≤ n ∧ u13 = .int .i64 i ∧ Hid (SeI w3 gs n (seenL ss n) wr)) (fun u13 _ => n - (intOf u13).toNat)
    case atStart => exact ⟨0, Nat.zero_le _, rfl, hcut⟩
    case round =>
      clear hcut
      obtain ⟨i, hi, rfl, hS⟩ := hrel
      by_cases hlt : i < n
      · have hlti : (i : Int) < n := by omega
        obtain ⟨s, sv, hx, hA⟩ := hat.out i hlt
        have hPw := hPX.out _ hS.out.2
        have c0 := hPw.1.c0
        have c1 := hPw.1.c1
        obtain ⟨b, o, rfl, z0, z1, z2, z3, z4, z5, hv⟩ := hstep.out _ hPw i s sv hx
        have hs := hse.out i hlt
        rw [hA] at hs
        obtain ⟨hsc, hsf⟩ := hS.out.cell hlt hs
        obtain ⟨neg, hneg⟩ : ∃ g, s.neg = g := ⟨_, rfl⟩
        rw [hneg] at z0 hsc
        clear hv hs hx hA hneg z1 z2 z3 z4 z5 hPw hsf
        cases neg with
        | true =>
          rw [if_pos rfl] at hsc
          go_wp2_with fail
          go_quiet (fail)
          go_wp2_with fail
          go_roundw
          case rel => exact ⟨i + 1, hlt, by go_num, Lib.hid (hS.out.later (below_drewN _ _))⟩
          case measure => simp [intOf]; omega
        | false =>
          rw [if_neg (by simp)] at hsc
          go_wp2_with fail
          go_quiet (fail)
          go_wp2_with fail
          go_roundw
          case rel => exact ⟨i + 1, hlt, by go_num, Lib.hid (hS.out.later (below_drewN _ _))⟩
          case measure => simp [intOf]; omega
      · obtain rfl : i = n := by omega
        clear hstep hat
        go_wp2_with fail
        go_meet
        exact hS
  case rest =>
  have hPw := hPX.out _ hcut.out.2
  replace hPw := Lib.hid hPw.2
  clear hcut hstep hat hse
  go_wp2_with ((with_reducible refine (hW.out _).mono ?_); rintro e w7 ⟨rfl, hb7⟩)
  go_ret
  exact ⟨rfl, kept_trans hPw.out hb7⟩
theorem guardsWalk (hwk : WakesU) (v : Value) (L : List (Sp × Value)) (win nr : Int) (w : World) (h : SpsL w v L) (hl : L.length ≤ maxLen) (hq : ∀ x ∈ L, InSp w x) (hnr : (Lit.int .i64 nr).wf = true) :
    Calls Try.prog 4 #[ptV v win, .int .i64 nr] w fun e w' => e = .returned (.bool true) ∧ Below w.heap.size w w' := by
  cases hm : mayB (L.map (·.1)) win with
  | false => exact guardsEarly hwk v L win nr w h hl hq hnr hm
  | true =>
    cases hg : great (L.map (·.1)) with
    | true => rw [great_not hg] at hm; cases hm
    | false => exact guardsMain hwk v L win nr w h hl hq hnr hg hm
end Go.Proofs.Ytfkdgaeiiejjlaa.Tree
