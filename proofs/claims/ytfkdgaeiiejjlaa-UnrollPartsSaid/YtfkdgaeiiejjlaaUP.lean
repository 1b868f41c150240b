/-
  UnrollParts' walk.
-/
import Derived.Test.YtfkdgaeiiejjlaaUR
import Derived.Test.YtfkdgaeiiejjlaaUJ
import Derived.Test.YtfkdgaeiiejjlaaCZQ
import Derived.Deep.RegionWith
import Derived.Deep.CutRange
import Derived.Deep.CutBlock
import Derived.StillTailTactics
namespace Go.Proofs.Ytfkdgaeiiejjlaa.Tree
open Go.ChangeShapes Go.WideShapes Go.ChangeAt Go.RowKit
set_option linter.unusedVariables false
set_option linter.unusedSimpArgs false
set_option maxRecDepth 100000
attribute [local go_sem] Oper.semAt_some
theorem may_R {v : Value} {L : List (Sp × Value)} (win : Int) (hg : great (L.map (·.1)) = false) (w : World) (h : SpsL w v L) :
    Calls Try.prog 10 #[ptV v win] w fun e w' => e = .returned (.bool (mayB (L.map (·.1)) win)) ∧ Below w.heap.size w w' := by
  obtain ⟨hS, h40, h20⟩ := Small.of_great hg
  obtain ⟨a, c, rfl⟩ := h.lit rfl
  have hl : L.length ≤ 1000 := Nat.le_trans (by simpa using h40) (by omega)
  exact refMay_L a _ c win L hS.short w rfl hl (fun x hx => h20 x.1 (List.mem_map_of_mem hx)) h
/-- Where the pattern with a step more stands: p as it came, q's box, its row of steps. -/
def PqK (w : World) (v : Value) (win : Int) (bq : Nat) (qv : Value) (M : List (Sp × Value)) (X : World) : Prop := PK w v win X ∧ PtBox bq qv win X ∧ SpsL X qv M
theorem PqK.later {w : World} {v : Value} {win : Int} {bq : Nat} {qv : Value} {M : List (Sp × Value)} {X Y : World} (h : PqK w v win bq qv M X) (hb : Below X.heap.size X Y) : PqK w v win bq qv M Y := ⟨h.1.later hb, h.2.1.later hb, h.2.2.later hb⟩
theorem spsCells_app (L M : List (Sp × Value)) : spsCells (L ++ M) = spsCells L ++ spsCells M := by simp [spsCells]
theorem great_app {ss : List Sp} {s : Sp} (h : great ss = false) (hl : ss.length ≤ 6) (hs : s.cs.length ≤ 20) : great (ss ++ [s]) = false := by
  have := (Small.of_great h).2.2
  unfold great
  have h1 : ((ss ++ [s]).take 41).any (fun s => decide (20 < s.cs.length)) = false := by
    rw [List.any_eq_false]
    intro x hx
    rcases List.mem_append.1 (List.mem_of_mem_take hx) with hx | hx
    · have := this x hx; simp; omega
    · obtain rfl := List.mem_singleton.1 hx; simp; omega
  rw [h1, decide_eq_false (by simp; omega)]; rfl
theorem lit0 (W : World) (t : TypeId) (sz : Nat) : (W.alloc (.cells #[] t)).ownsRow W.heap.size t sz (.slice (some ⟨W.heap.size, 0, none⟩) 0 0) 0 [] := by
  have := World.ownsRow_lit (base := W.heap.size) (e := t) (size := sz) W #[] 0 (by omega) (by unfold maxLen; omega) (by simp)
  simpa using this
theorem cells_lit (W : World) (cs : List Value) (t : TypeId) : CellsAt (W.alloc (.cells cs.toArray t)) (some ⟨W.heap.size, 0, none⟩) cs := by
  refine .inr ⟨W.heap.size, 0, rfl, fun j u hj => ?_⟩
  have := World.alloc_heap_new W (.cells cs.toArray t)
  simp only [World.cell?, this, Nat.zero_add]
  simpa using hj
theorem spsCells_neg (L : List (Sp × Value)) (v : Value) : (spsCells (L ++ [(onceP, v)])).set (L.length * 6) (.bool true) = spsCells (L ++ [(onceN, v)]) := by
  rw [spsCells_app, spsCells_app, ← spsCells_len, List.set_append_right _ _ (Nat.le_refl _), Nat.sub_self]
  rfl
def NilB (p : Nat) (X : World) : Prop := X.heap[p]? = some (.cells #[] 3 (0, 0))
theorem NilB.later {p : Nat} {X Y : World} (h : NilB p X) (hb : Below X.heap.size X Y) : NilB p Y := (hb.block _ (Array.getElem?_eq_some_iff.1 h).1).trans h
theorem lcell {W W' : World} {a : Addr} {v : Value} (h : W.cell? a = some v) (hb : Below W.heap.size W W') : W'.cell? a = some v := bcell hb (World.block_lt_of_cell? W _ h) h
theorem rows_get2 {W : World} {base : Nat} {v : Value} {R : List (List Int)} (h : OwnRows W base v R) {k : Nat} {r : List Int} (hr : R[k]? = some r) :
    ∃ b c u, v = .slice (some ⟨b, 0, none⟩) R.length c ∧ W.cell? ⟨b, k, none⟩ = some u ∧ W.ownsRow base 3 1 u r.length (ints r) := by
  obtain ⟨vs, h1, h2⟩ := h
  have hl : vs.length = R.length := by have := h1.1; simpa using this
  have hk := (List.getElem?_eq_some_iff.1 hr).1
  obtain ⟨u, hu⟩ : ∃ u, vs[k]? = some u := ⟨_, List.getElem?_eq_getElem (by omega)⟩
  rcases h1.2 with ⟨e, h0⟩ | ⟨g, cap, cur, e, hb, hg, hn, hm, hs, ht⟩
  · omega
  · refine ⟨g, cap, u, e, ?_, h2 k u r hu hr⟩
    rw [← ht] at hu
    have hkk : k < R.length * 1 := by omega
    rw [List.getElem?_take_of_lt hkk] at hu
    simp only [World.cell?, hg]
    simpa using hu
set_option maxHeartbeats 4000000 in
theorem partsWalk (hwk : WakesU) (v : Value) (L : List (Sp × Value)) (win : Int) (w : World) (h : SpsL w v L) (hl : L.length ≤ maxLen) (hq : ∀ x ∈ L, InSp w x) :
    Calls Try.prog 5 #[ptV v win] w fun e w' => e = .returned (.bool true) ∧ Below w.heap.size w w' := by
  have hb := kept_new w (.cells #[v, .int .i64 win] 24)
  have hG := great_W win _ hl (h.later hb)
  have hW := Lib.hid hwk
  have hp : PK w v win (w.alloc (.cells #[v, .int .i64 win] 24)) := ⟨PtBox.new w _ _, hb⟩
  have c0 := hp.1.c0
  have c1 := hp.1.c1
  obtain ⟨n, hn⟩ : ∃ n, L.length = n := ⟨_, rfl⟩
  obtain ⟨a, c, rfl⟩ := h.lit hn
  obtain ⟨G, hg⟩ : ∃ G, great (L.map (·.1)) = G := ⟨_, rfl⟩
  rw [hg] at hG
  cases G with
  | true =>
    replace hG := Lib.hid hG
    replace hb := Lib.hid hb
    clear hp h hl hg hwk hq hn
    go_enter Try.func5, Try.ntmps5
    go_wp2_with (first
      | ((with_reducible refine hG.out.mono ?_); rintro e w2 ⟨rfl, hb2⟩)
      | ((with_reducible refine (hW.out _).mono ?_); rintro e w3 ⟨rfl, hb3⟩))
    go_ret
    exact ⟨rfl, kept_trans hb.out (kept_trans hb2 hb3)⟩
  | false =>
    have hMy : Hid (∀ X, PK w (.slice a n c) win X → Calls Try.prog 10 #[ptV (.slice a n c) win] X fun e Y => e = .returned (.bool (mayB (L.map (·.1)) win)) ∧ Below X.heap.size X Y) := fun X hX => may_R win hg X (h.later hX.2)
    obtain ⟨M, hM⟩ : ∃ M, mayB (L.map (·.1)) win = M := ⟨_, rfl⟩
    rw [hM] at hMy
    cases M with
    | false =>
      replace hG := Lib.hid hG
      clear h hl hg hwk hq hn hb hM
      go_enter Try.func5, Try.ntmps5
      go_wp2_with (first
        | ((with_reducible refine hG.out.mono ?_); rintro e w1 ⟨rfl, hb1⟩; have hp1 := hp.later hb1; have Q0 := Lib.hid (hMy.out _ hp1); have d0 := hp1.1.c0; have d1 := hp1.1.c1)
        | ((with_reducible refine Q0.out.mono ?_); rintro e w2 ⟨rfl, hb2⟩; have hp2 := hp1.later hb2)
        | ((with_reducible refine (hW.out _).mono ?_); rintro e w3 ⟨rfl, hb3⟩))
      go_ret
      exact ⟨rfl, kept_trans hp2.2 hb3⟩
    | true =>
      have hGd := may_good hM
      have hn6 : n ≤ 6 := by have := hGd.len6; simp at this; omega
      by_cases h6 : n = 6
      · subst h6
        replace hG := Lib.hid hG
        clear h hl hg hwk hq hn hb hM hGd
        go_enter Try.func5, Try.ntmps5
        go_wp2_with (first
          | ((with_reducible refine hG.out.mono ?_); rintro e w1 ⟨rfl, hb1⟩; have hp1 := hp.later hb1; have Q0 := Lib.hid (hMy.out _ hp1); have d0 := hp1.1.c0; have d1 := hp1.1.c1)
          | ((with_reducible refine Q0.out.mono ?_); rintro e w2 ⟨rfl, hb2⟩; have hp2 := hp1.later hb2; have e0 := hp2.1.c0; have e1 := hp2.1.c1)
          | ((with_reducible refine (hW.out _).mono ?_); rintro e w3 ⟨rfl, hb3⟩))
        go_ret
        exact ⟨rfl, kept_trans hp2.2 hb3⟩
      · have hn5 : n ≤ 5 := by omega
        have hn5i : ¬ (6 : Int) ≤ n := by omega
        have hpos := Lib.hid h
        replace hG := Lib.hid hG
        have hL6 : (spsCells L).length = n * 6 := by rw [spsCells_len, hn]
        have hL1 := sps_one h.2
        obtain ⟨i0, hi, hz0, hz1, hz2⟩ := info_parts Try.info32
        replace hi := Lib.hid hi
        clear hb
        go_enter Try.func5, Try.ntmps5
        go_upto_region 4 with (first
          | ((with_reducible refine hG.out.mono ?_); rintro e w1 ⟨rfl, hb1⟩; have hp1 := hp.later hb1; have Q0 := Lib.hid (hMy.out _ hp1); have d0 := hp1.1.c0; have d1 := hp1.1.c1)
          | ((with_reducible refine Q0.out.mono ?_); rintro e w2 ⟨rfl, hb2⟩; have hp2 := hp1.later hb2; have e0 := hp2.1.c0; have e1 := hp2.1.c1))
        have hp2 := hp1.later hb2
        have hPw := hp2
        have hlt2 : w.heap.size < w2.heap.size := by have := hp2.1; exact (Array.getElem?_eq_some_iff.1 this).1
        have hk3 := kept_new w2 (.cells #[.slice a n c, .int .i64 win] 24)
        have hQb := PtBox.new w2 (.slice a n c) win
        have hp3 := hp2.later hk3
        clear c0 c1 d0 d1 e0 e1 hG hp hp1 hp2 hPw hb1 hb2 Q0
        obtain ⟨W3, hW3⟩ : ∃ W3, w2.alloc (.cells #[.slice a n c, .int .i64 win] 24) = W3 := ⟨_, rfl⟩
        have hsz3 : W3.heap.size = w2.heap.size + 1 := by rw [← hW3]; simp
        rw [hW3] at hQb hp3 hk3 ⊢
        obtain ⟨bq, hbq⟩ : ∃ bq, w2.heap.size = bq := ⟨_, rfl⟩
        rw [hbq] at hQb hsz3 hlt2 ⊢
        clear hW3 hk3 hbq
        have hF : Hid (∀ X, Below W3.heap.size W3 X → PK w (.slice a n c) win X ∧ PtBox bq (.slice a n c) win X ∧ SpsL X (.slice a n c) L) := fun X hX => ⟨hp3.later hX, hQb.later hX, h.later (hp3.later hX).2⟩
        have own0 := lit0 W3 32 6
        have B0 := kept_new W3 (.cells #[] 32)
        have F0 := hF.out _ B0
        have c0 := F0.1.1.c0
        obtain ⟨a', c', e', hcs⟩ := F0.2.2.1
        rw [hn] at e'
        obtain ⟨rfl, rfl⟩ := slice_eq e'
        have hnn : n + 1 ≤ 7 := by omega
        clear e' F0 hQb hp3
        replace hsz3 := Lib.hid hsz3
        go_upto_region 5 with (first
          | (at_builtin; refine wpList_append_cells rfl (.tmp 22) (.tmp 24) 22 rfl W3.heap.size 32 i0 _ 6 64 Try.underlying22 hi.out hz0 hz1 hz2 rfl (by decide) _ 0 [] rfl own0 a n c (spsCells L) rfl hL6 hcs hL1 (by unfold maxLen; omega) (by omega) B0.size ?_; intro v1 wA hown1 hgrow1; rw [Nat.zero_add, List.nil_append] at hown1; obtain ⟨a6, c6, rfl, -⟩ := cells_of_row hown1; have BA : Below W3.heap.size W3 wA := (B0.grown hgrow1 B0.size (fun j ej => by cases ej; exact Nat.le_refl _)); have hown1' := hown1.alloc (.cells #[.bool false, .int .i64 0, .int .i64 1, .int .i64 1, .bool false, .slice none 0 0] 32); have hlt := cells_lit wA [.bool false, .int .i64 0, .int .i64 1, .int .i64 1, .bool false, .slice none 0 0] 32; have BA2 := kept_trans BA (kept_new wA (.cells #[.bool false, .int .i64 0, .int .i64 1, .int .i64 1, .bool false, .slice none 0 0] 32)); clear hgrow1 own0 hcs)
          | (at_builtin; refine wpList_append_cells rfl (.tmp 25) (.tmp 27) 22 rfl W3.heap.size 32 i0 _ 6 64 Try.underlying22 hi.out hz0 hz1 hz2 rfl (by decide) _ n (spsCells L) rfl hown1' (some ⟨wA.heap.size, 0, none⟩) 1 1 [.bool false, .int .i64 0, .int .i64 1, .int .i64 1, .bool false, .slice none 0 0] rfl rfl hlt (by simp [Value.oneCell']) (by unfold maxLen; omega) (by omega) BA2.size ?_; intro v2 wB hown2 hgrow2; have BB : Below W3.heap.size W3 wB := BA2.grown hgrow2 BA2.size (own_ge hown1'); obtain ⟨gq, cq, rfl⟩ := ownsRow_succ hown2; have FB := hF.out _ BB; have r0 := FB.2.1.c0; have r1 := FB.2.1.f 0; clear hown1 hown1' hgrow2 hlt))
        have hO4 := row_kept hown2 (grownBy_setCell_any wB bq 0 (.slice (some ⟨gq, 0, none⟩) (n + 1) cq)) (block_is FB.2.1 32 (by decide))
        have hP4 : PK w (.slice a n c) win (wB.setCell ⟨bq, 0, none⟩ (.slice (some ⟨gq, 0, none⟩) (n + 1) cq)) := ⟨block_far FB.1.1 (by omega) _ _, FB.1.2.setCell (p := ⟨bq, 0, none⟩) (by simp; omega) _⟩
        have hB4 : PtBox bq (.slice (some ⟨gq, 0, none⟩) (n + 1) cq) win (wB.setCell ⟨bq, 0, none⟩ (.slice (some ⟨gq, 0, none⟩) (n + 1) cq)) := FB.2.1.set0 _
        have hgb : bq < gq := by have h1 := (hown2.lt gq rfl).1; have h2 := hsz3.out; omega
        clear hown2 BB FB r0 r1 BA BA2 hF B0 c0 hL6 hL1 hi hz0 hz1 hz2 hMy
        obtain ⟨W4, hW4⟩ : ∃ W4, wB.setCell ⟨bq, 0, none⟩ (.slice (some ⟨gq, 0, none⟩) (n + 1) cq) = W4 := ⟨_, rfl⟩
        rw [hW4] at hO4 hP4 hB4 ⊢
        clear hW4
        have hO4' : W4.ownsRow W3.heap.size 32 6 (.slice (some ⟨gq, 0, none⟩) (n + 1) cq) (n + 1) (spsCells (L ++ [(onceP, .slice none 0 0)])) := by rw [spsCells_app]; exact hO4
        have hS4 : SpsL W4 (.slice (some ⟨gq, 0, none⟩) (n + 1) cq) (L ++ [(onceP, .slice none 0 0)]) := by
          refine ⟨?_, fun x hx => ?_⟩
          · obtain ⟨a', c', e', hc⟩ := cells_of_row hO4'
            exact ⟨a', c', by rw [e']; simp [hn], hc⟩
          · rcases List.mem_append.1 hx with hx | hx
            · exact (h.later hP4.2).2 x hx
            · obtain rfl := List.mem_singleton.1 hx
              exact ⟨none, 0, rfl, .inl rfl⟩
        have hK4 : PqK w (.slice a n c) win bq (.slice (some ⟨gq, 0, none⟩) (n + 1) cq) (L ++ [(onceP, .slice none 0 0)]) W4 := ⟨hP4, hB4, hS4⟩
        obtain ⟨ss, hss⟩ : ∃ ss, L.map (·.1) = ss := ⟨_, rfl⟩
        have hsl : ss.length = n := by rw [← hss]; simpa using hn
        have hm0 : (L ++ [(onceP, Value.slice none 0 0)]).map (·.1) = ss ++ [onceP] := by rw [List.map_append, hss]; rfl
        have hm1 : (L ++ [(onceN, Value.slice none 0 0)]).map (·.1) = ss ++ [onceN] := by rw [List.map_append, hss]; rfl
        have hin : ∀ s : Sp, s.cs = [] → ∀ x ∈ L ++ [(s, Value.slice none 0 0)], InSp w x := fun s hs x hx => by
          rcases List.mem_append.1 hx with hx | hx
          · exact hq x hx
          · obtain rfl := List.mem_singleton.1 hx
            dsimp only [InSp]
            rw [hs]
            exact ⟨⟨none, 0, rfl, .inl rfl⟩, by simp, fun c hc => by simp at hc⟩
        have hg0 : great ((L ++ [(onceP, Value.slice none 0 0)]).map (·.1)) = false := by rw [hm0, ← hss]; exact great_app hg (by simp; omega) (by simp [onceP])
        have hg1 : great ((L ++ [(onceN, Value.slice none 0 0)]).map (·.1)) = false := by rw [hm1, ← hss]; exact great_app hg (by simp; omega) (by simp [onceN])
        have hok := unOk_of hg hq
        have hok0 := unOk_of hg0 (hin onceP rfl)
        have hok1 := unOk_of hg1 (hin onceN rfl)
        have hRp : Hid (∀ X, PK w (.slice a n c) win X → Calls Try.prog 9 #[ptV (.slice a n c) win] X fun e Y => ∃ u, e = .returned u ∧ OwnRows Y X.heap.size u (rowsR ss win) ∧ Below X.heap.size X Y) := fun X hX => by
          have := rows_R win hok X (h.later hX.2)
          rw [hss] at this; exact this
        have hAp : Hid (∀ X, PK w (.slice a n c) win X → Calls Try.prog 15 #[ptV (.slice a n c) win] X fun e Y => ∃ u, e = .returned u ∧ Y.ownsRow X.heap.size 3 1 u (afterL ss win).length (ints (afterL ss win)) ∧ Below X.heap.size X Y) := fun X hX => by
          have := after_V win hok X (h.later hX.2)
          rw [hss] at this; exact this
        have hRq : Hid (∀ (qv : Value) X, PqK w (.slice a n c) win bq qv (L ++ [(onceP, .slice none 0 0)]) X → Calls Try.prog 9 #[ptV qv win] X fun e Y => ∃ u, e = .returned u ∧ OwnRows Y X.heap.size u (rowsR (ss ++ [onceP]) win) ∧ Below X.heap.size X Y) := fun qv X hX => by
          have := rows_R win hok0 X hX.2.2
          rw [hm0] at this; exact this
        have hMq : Hid (∀ (qv : Value) X, PqK w (.slice a n c) win bq qv (L ++ [(onceP, .slice none 0 0)]) X → Calls Try.prog 10 #[ptV qv win] X fun e Y => e = .returned (.bool (mayB (ss ++ [onceP]) win)) ∧ Below X.heap.size X Y) := fun qv X hX => by
          have := may_R win hg0 X hX.2.2
          rw [hm0] at this; exact this
        have hRn : Hid (∀ (qv : Value) X, PqK w (.slice a n c) win bq qv (L ++ [(onceN, .slice none 0 0)]) X → Calls Try.prog 9 #[ptV qv win] X fun e Y => ∃ u, e = .returned u ∧ OwnRows Y X.heap.size u (rowsR (ss ++ [onceN]) win) ∧ Below X.heap.size X Y) := fun qv X hX => by
          have := rows_R win hok1 X hX.2.2
          rw [hm1] at this; exact this
        have hAn : Hid (∀ (qv : Value) X, PqK w (.slice a n c) win bq qv (L ++ [(onceN, .slice none 0 0)]) X → Calls Try.prog 15 #[ptV qv win] X fun e Y => ∃ u, e = .returned u ∧ Y.ownsRow X.heap.size 3 1 u (afterL (ss ++ [onceN]) win).length (ints (afterL (ss ++ [onceN]) win)) ∧ Below X.heap.size X Y) := fun qv X hX => by
          have := after_V win hok1 X hX.2.2
          rw [hm1] at this; exact this
        rw [hss] at hM
        replace hsl := Lib.hid hsl
        replace hM := Lib.hid hM
        have hO4 := Lib.hid hO4'
        have hHL := Lib.hid h
        replace hn := Lib.hid hn
        clear hO4' hP4 hB4 hS4 hin hg0 hg1 hg hok hok0 hok1 hq hl h hm0 hm1 hss hGd hwk hpos
        obtain ⟨qv, hqv⟩ : ∃ qv, Value.slice (some ⟨gq, 0, none⟩) (n + 1) cq = qv := ⟨_, rfl⟩
        have hgW : gq < W4.heap.size := (hO4.out.lt gq rfl).2
        have hKX := Lib.hid (fun X (hX : Below W4.heap.size W4 X) => hK4.later hX)
        obtain ⟨R0, hR0⟩ : ∃ R, rowsR ss win = R := ⟨_, rfl⟩
        obtain ⟨R1, hR1⟩ : ∃ R, rowsR (ss ++ [onceP]) win = R := ⟨_, rfl⟩
        have hbd0 := rowsR_bd ss win
        have hbd1 := rowsR_bd (ss ++ [onceP]) win
        rw [hR0] at hRp hbd0
        rw [hR1] at hRq hbd1
        have hKd : PqK w (.slice a n c) win bq (.slice (some ⟨gq, 0, none⟩) (n + 1) cq) (L ++ [(onceP, .slice none 0 0)]) W4.drew := hK4.later (below_drew W4)
        have c0 := hKd.1.1.c0
        have c1 := hKd.1.1.c1
        have d0 := hKd.2.1.c0
        have d1 := hKd.2.1.c1
        have Q1 := Lib.hid (hRp.out _ hKd.1)
        have Q2 := Lib.hid (hRq.out _ _ hKd)
        replace hR0 := Lib.hid hR0
        replace hR1 := Lib.hid hR1
        replace hbd0 := Lib.hid hbd0
        replace hbd1 := Lib.hid hbd1
        replace hO4 := Lib.hid hO4
        have hBd := Lib.hid (below_drew W4)
        replace hKd := Lib.hid hKd
        clear hqv qv hK4
        go_cut [4, 5] from 7 to 33 (fun ua ub wx => Hid (OwnRows wx W4.heap.size ua R0) ∧ Hid (OwnRows wx W4.heap.size ub R1) ∧ Hid (Below W4.heap.size W4 wx))
        case first =>
          clear hAp hMq hRn hAn
          go_region_with (first
            | ((with_reducible refine Q1.out.mono ?_); rintro e wa ⟨ua, rfl, hoa, hba⟩; have hKa := hKd.out.later hba; have e0 := hKa.1.1.c0; have e1 := hKa.1.1.c1; have e2 := hKa.2.1.c0; have e3 := hKa.2.1.c1; have Q3 := Lib.hid (hRq.out _ _ hKa))
            | ((with_reducible refine Q3.out.mono ?_); rintro e wb ⟨ub, rfl, hob, hbb⟩))
          all_goals
            go_wp2_with fail
            go_meet
            exact ⟨Lib.hid ((hoa.later hbb).base hBd.out.size), Lib.hid (hob.base (kept_trans hBd.out hba).size), Lib.hid (kept_trans (kept_trans hBd.out hba) hbb)⟩
        case rest =>
        obtain ⟨hua, hub, hBx⟩ := hcut
        clear Q1 Q2 c0 c1 d0 d1 hKd hBd hRp hRq
        have hKx := hKX.out _ hBx.out
        have d0 := hKx.2.1.c0
        have d1 := hKx.2.1.c1
        have Q1 := Lib.hid (hMq.out _ _ hKx)
        clear hMq
        obtain ⟨M1, hM1⟩ : ∃ M1, mayB (ss ++ [onceP]) win = M1 := ⟨_, rfl⟩
        rw [hM1] at Q1
        obtain ⟨aa, ma, ca, rfl⟩ := hua.out.lit
        obtain ⟨ab, mb, cb, rfl⟩ := hub.out.lit
        have hma : ma = R0.length := by
          obtain ⟨vs, k1, -⟩ := hua.out
          have k2 := k1.1
          rcases k1.2 with ⟨e, h0⟩ | ⟨g, cap, cur, e, _⟩
          · injection e with e1 e2 e3; omega
          · injection e with e1 e2 e3
        have hmb : mb = R1.length := by
          obtain ⟨vs, k1, -⟩ := hub.out
          rcases k1.2 with ⟨e, h0⟩ | ⟨g, cap, cur, e, _⟩
          · injection e with e1 e2 e3; omega
          · injection e with e1 e2 e3
        cases M1 with
        | false =>
          have hR1n : R1 = [] := by rw [← hR1.out]; unfold rowsR; rw [hM1]; simp
          obtain rfl : mb = 0 := by rw [hmb, hR1n]; rfl
          replace hKx := Lib.hid hKx
          clear hAp hRn hAn hua hub hma hmb hM1 hR1n
          go_wp2_with (first
            | ((with_reducible refine Q1.out.mono ?_); rintro e w6 ⟨rfl, hb6⟩)
            | ((with_reducible refine (hW.out _).mono ?_); rintro e w7 ⟨rfl, hb7⟩))
          go_ret
          exact ⟨rfl, kept_trans (kept_trans hKx.out.1.2 hb6) hb7⟩
        | true =>
          have hRe : R1 = R0.map fun r => r ++ [(n : Int)] := by rw [← hR1.out, ← hR0.out, ← hsl.out]; exact rowsR_one rfl rfl rfl hM.out hM1
          have hmm : mb = ma := by rw [hmb, hma, hRe]; simp
          subst hmm
          replace hRe := Lib.hid hRe
          replace hma := Lib.hid hma
          replace hmb := Lib.hid hmb
          replace hM1 := Lib.hid hM1
          clear hKx
          go_upto_block 0 with ((with_reducible refine Q1.out.mono ?_); rintro e w6 ⟨rfl, hb6⟩)
          have hKx := hKX.out _ (kept_trans hBx.out hb6)
          have hua6 := Lib.hid (hua.out.later hb6)
          have hub6 := Lib.hid (hub.out.later hb6)
          have hB6 := Lib.hid (kept_trans hBx.out hb6)
          have hrl := Lib.hid (fun r (hr : r ∈ R0) => hbd0.out.2 r hr)
          have hm81 : mb ≤ 81 := by have := hbd0.out.1; have := hma.out; omega
          clear Q1 d0 d1 hua hub hBx hb6 hKx
          have hmx : Try.prog.follows .mixedOrders = true := by kernel_rfl
          go_cut [6] from 48 to 70 (fun u6 wx => Hid (Below w6.heap.size w6 wx))
          case first =>
            clear hAp hRn hAn hO4
            go_wp2_with fail
            go_loopw [6] (fun u6 wr => ∃ i : Nat, i ≤ mb ∧ u6 = .int .i64 i ∧ Hid (Below w6.heap.size w6 wr)) (fun u6 _ => mb - (intOf u6).toNat)
            case atStart => exact ⟨0, Nat.zero_le _, rfl, Lib.hid (Below.refl _ _)⟩
            case round =>
              obtain ⟨i, hi, rfl, hB⟩ := hrel
              by_cases hlt : i < mb
              · have hlti : (i : Int) < mb := by omega
                obtain ⟨r, hr⟩ : ∃ r, R0[i]? = some r := ⟨_, List.getElem?_eq_getElem (by have := hma.out; omega)⟩
                have hr12 := hrl.out r (List.mem_of_getElem? hr)
                have hr1 : R1[i]? = some (r ++ [(n : Int)]) := by rw [hRe.out, List.getElem?_map, hr]; rfl
                obtain ⟨ba, ca', ui, e', q1, o1⟩ := rows_get2 (hua6.out.later hB.out) hr
                injection e' with e1 e2 e3
                subst e1 e3
                obtain ⟨bb, cb', vi, e', q2, o2⟩ := rows_get2 (hub6.out.later hB.out) hr1
                injection e' with e1 e2' e3
                subst e1 e3
                obtain ⟨au, cu, rfl, k1⟩ := nms_own o1
                obtain ⟨av, cv, rfl, k2⟩ := nms_own o2
                have hKw := hKX.out _ (kept_trans hB6.out hB.out)
                have q0 := hKw.1.1.c0
                obtain ⟨lr, hlr⟩ : ∃ lr, r.length = lr := ⟨_, rfl⟩
                have hlr1 : (r ++ [(n : Int)]).length = lr + 1 := by rw [List.length_append, hlr]; rfl
                rw [hlr1] at q2
                rw [hlr] at q1
                have hF0 : Hid (∀ X, Below wr.drew.heap.size wr.drew X → X.cell? ⟨w.heap.size, 0, none⟩ = some (.slice a n c) ∧ X.cell? ⟨ba, i, none⟩ = some (.slice au lr cu) ∧ X.cell? ⟨bb, i, none⟩ = some (.slice av (lr + 1) cv) ∧ NmsAt X (.slice au lr cu) r ∧ NmsAt X (.slice av (lr + 1) cv) (r ++ [(n : Int)])) := fun X hX => by
                  have hb := kept_trans (below_drew wr) hX
                  exact ⟨lcell q0 hb, lcell q1 hb, lcell q2 hb, ⟨au, cu, by rw [hlr], k1.later hb⟩, ⟨av, cv, by rw [hlr1], k2.later hb⟩⟩
                have hB0 : Hid (Below w6.heap.size w6 wr.drew) := kept_trans hB.out (below_drew wr)
                replace hr := Lib.hid hr
                replace hr1 := Lib.hid hr1
                clear q0 q1 q2 o1 o2 k1 k2 e2 e2' hB hKw
                go_wp2_with fail
                obtain ⟨W0, hW0⟩ : ∃ W0, wr.drew = W0 := ⟨_, rfl⟩
                rw [hW0] at hF0 hB0
                have hF := hF0
                have hI : Hid (∀ (X : World) (v : Value), NmsAt X v (r ++ [(n : Int)]) → Below W0.heap.size W0 X → Calls Try.prog 11 #[v, .slice av (lr + 1) cv] X fun e Y => e = .returned (.bool true) ∧ Below X.heap.size X Y) := fun X v hv hX => by
                  have := ints2_V (by rw [hlr1]; unfold maxLen; omega) (by rw [hlr1]; unfold maxLen; omega) X hv (hF.out X hX).2.2.2.2
                  simpa using this
                have hW' := Below.refl W0.heap.size W0
                refine wp_region_noPanic ?_
                refine wp_region_held (S := fun Z => Below W0.heap.size W0 Z) hmx ?_
                try dsimp only [List.append]
                change wpAnyH _ _ _ _ _ _ _ _ wr.drew
                rw [hW0]
                generalize hops : (List.toArray _ : Array Oper) = ops
                generalize hQQ : NoPanic _ = QQ
                have hQp : ∀ (d : Option Tmp) (v : Value) (c : _) (a : Act) (w : World), QQ (.panic c) (a.put d v) w → QQ (.panic c) a w := by rw [← hQQ]; intro d v c a w h; exact h
                have hNS : Region.noSelect ops = true := by rw [← hops]; kernel_rfl
                obtain ⟨oo, hop0⟩ : ∃ o, ops[0]? = some o := ⟨_, by rw [← hops]; rfl⟩
                have hv := hop0
                rw [← hops] at hv
                simp only [List.getElem?_toArray, List.getElem?_cons_succ, List.getElem?_cons_zero, Option.some.injEq] at hv
                subst hv
                obtain ⟨oo, hop1⟩ : ∃ o, ops[1]? = some o := ⟨_, by rw [← hops]; rfl⟩
                have hv := hop1
                rw [← hops] at hv
                simp only [List.getElem?_toArray, List.getElem?_cons_succ, List.getElem?_cons_zero, Option.some.injEq] at hv
                subst hv
                obtain ⟨oo, hop2⟩ : ∃ o, ops[2]? = some o := ⟨_, by rw [← hops]; rfl⟩
                have hv := hop2
                rw [← hops] at hv
                simp only [List.getElem?_toArray, List.getElem?_cons_succ, List.getElem?_cons_zero, Option.some.injEq] at hv
                subst hv
                obtain ⟨oo, hop3⟩ : ∃ o, ops[3]? = some o := ⟨_, by rw [← hops]; rfl⟩
                have hv := hop3
                rw [← hops] at hv
                simp only [List.getElem?_toArray, List.getElem?_cons_succ, List.getElem?_cons_zero, Option.some.injEq] at hv
                subst hv
                obtain ⟨oo, hop4⟩ : ∃ o, ops[4]? = some o := ⟨_, by rw [← hops]; rfl⟩
                have hv := hop4
                rw [← hops] at hv
                simp only [List.getElem?_toArray, List.getElem?_cons_succ, List.getElem?_cons_zero, Option.some.injEq] at hv
                subst hv
                obtain ⟨oo, hop5⟩ : ∃ o, ops[5]? = some o := ⟨_, by rw [← hops]; rfl⟩
                have hv := hop5
                rw [← hops] at hv
                simp only [List.getElem?_toArray, List.getElem?_cons_succ, List.getElem?_cons_zero, Option.some.injEq] at hv
                subst hv
                obtain ⟨oo, hop6⟩ : ∃ o, ops[6]? = some o := ⟨_, by rw [← hops]; rfl⟩
                have hv := hop6
                rw [← hops] at hv
                simp only [List.getElem?_toArray, List.getElem?_cons_succ, List.getElem?_cons_zero, Option.some.injEq] at hv
                subst hv
                obtain ⟨oo, hop7⟩ : ∃ o, ops[7]? = some o := ⟨_, by rw [← hops]; rfl⟩
                have hv := hop7
                rw [← hops] at hv
                simp only [List.getElem?_toArray, List.getElem?_cons_succ, List.getElem?_cons_zero, Option.some.injEq] at hv
                subst hv
                obtain ⟨oo, hop8⟩ : ∃ o, ops[8]? = some o := ⟨_, by rw [← hops]; rfl⟩
                have hv := hop8
                rw [← hops] at hv
                simp only [List.getElem?_toArray, List.getElem?_cons_succ, List.getElem?_cons_zero, Option.some.injEq] at hv
                subst hv
                obtain ⟨oo, hop9⟩ : ∃ o, ops[9]? = some o := ⟨_, by rw [← hops]; rfl⟩
                have hv := hop9
                rw [← hops] at hv
                simp only [List.getElem?_toArray, List.getElem?_cons_succ, List.getElem?_cons_zero, Option.some.injEq] at hv
                subst hv
                obtain ⟨oo, hop10⟩ : ∃ o, ops[10]? = some o := ⟨_, by rw [← hops]; rfl⟩
                have hv := hop10
                rw [← hops] at hv
                simp only [List.getElem?_toArray, List.getElem?_cons_succ, List.getElem?_cons_zero, Option.some.injEq] at hv
                subst hv
                obtain ⟨oo, hop11⟩ : ∃ o, ops[11]? = some o := ⟨_, by rw [← hops]; rfl⟩
                have hv := hop11
                rw [← hops] at hv
                simp only [List.getElem?_toArray, List.getElem?_cons_succ, List.getElem?_cons_zero, Option.some.injEq] at hv
                subst hv
                obtain ⟨oo, hop12⟩ : ∃ o, ops[12]? = some o := ⟨_, by rw [← hops]; rfl⟩
                have hv := hop12
                rw [← hops] at hv
                simp only [List.getElem?_toArray, List.getElem?_cons_succ, List.getElem?_cons_zero, Option.some.injEq] at hv
                subst hv
                obtain ⟨oo, hop13⟩ : ∃ o, ops[13]? = some o := ⟨_, by rw [← hops]; rfl⟩
                have hv := hop13
                rw [← hops] at hv
                simp only [List.getElem?_toArray, List.getElem?_cons_succ, List.getElem?_cons_zero, Option.some.injEq] at hv
                subst hv
                obtain ⟨oo, hop14⟩ : ∃ o, ops[14]? = some o := ⟨_, by rw [← hops]; rfl⟩
                have hv := hop14
                rw [← hops] at hv
                simp only [List.getElem?_toArray, List.getElem?_cons_succ, List.getElem?_cons_zero, Option.some.injEq] at hv
                subst hv
                obtain ⟨oo, hop15⟩ : ∃ o, ops[15]? = some o := ⟨_, by rw [← hops]; rfl⟩
                have hv := hop15
                rw [← hops] at hv
                simp only [List.getElem?_toArray, List.getElem?_cons_succ, List.getElem?_cons_zero, Option.some.injEq] at hv
                subst hv
                obtain ⟨oo, hop16⟩ : ∃ o, ops[16]? = some o := ⟨_, by rw [← hops]; rfl⟩
                have hv := hop16
                rw [← hops] at hv
                simp only [List.getElem?_toArray, List.getElem?_cons_succ, List.getElem?_cons_zero, Option.some.injEq] at hv
                subst hv
                have H15 : ∀ (s54 s55 s56 s57 s58 s59 s60 s61 s62 s63 s65 s66 s67 s69 s70 : Value) (v64 : Value) (X : World), Below W0.heap.size W0 X → NmsAt X v64 (r ++ [(n : Int)]) → wpAnyH Try.prog .any ops QQ (fun Z => Below W0.heap.size W0 Z) 2 (fsH 17 15 []) ({ tmps := #[ptV (.slice a n c) win, .pointer (some ⟨w.heap.size, 0, none⟩), u2, .pointer (some ⟨bq, 0, none⟩), .slice (some ⟨ba, 0, none⟩) mb ca, .slice (some ⟨bb, 0, none⟩) mb cb, .int .i64 i, u7, u8, u9, u10, u11, u12, u13, u14, u15, u16, u17, u18, u19, u20, u21, u22, u23, u24, u25, u26, u27, u28, u29, u30, u31, u32, u33, .agg #[.slice (some ⟨gq, 0, none⟩) (n + 1) cq, .int .i64 win], .bool true, .bool false, undef, undef, undef, undef, undef, undef, .slice (some ⟨ba, 0, none⟩) mb ca, .int .i64 mb, .slice (some ⟨bb, 0, none⟩) mb cb, .int .i64 mb, .bool false, .int .i64 i, .slice (some ⟨ba, 0, none⟩) mb ca, .int .i64 mb, .bool true, u52, u53, s54, s55, s56, s57, s58, s59, s60, s61, s62, s63, v64, s65, s66, s67, .slice av (lr + 1) cv, s69, s70, undef, undef, undef, undef, undef, undef, undef, undef, undef, undef, undef, undef, undef, undef, undef, undef, undef, undef, undef, undef, undef, undef, undef, undef, undef, undef, undef, undef], defers := [] }) X := by
                  as_aux_lemma =>
                  intro s54 s55 s56 s57 s58 s59 s60 s61 s62 s63 s65 s66 s67 s69 s70 v64 X hW' f64
                  refine wpAnyH_all (rs := [15]) (by rw [← hops]; kernel_rfl) (by simp) ?_
                  intro ix hix
                  simp only [List.mem_cons, List.not_mem_nil, or_false] at hix
                  rcases hix with rfl
                  · refine held_op hop15 (by rfl) (fun K' hK => ?_)
                    go_simp
                    refine (hI.out _ _ f64 hW').mono ?_
                    rintro e Y ⟨rfl, hb⟩
                    dsimp only
                    replace hW' := kept_trans hW' hb
                    refine hK _ _ ⟨hW', ?_⟩
                    clear hK K'
                    (try simp only [Act.put, List.setIfInBounds_toArray, List.set_cons_zero, List.set_cons_succ])
                    rw [show (fsH 17 15 []).setIfInBounds 15 true = (fsH 17 16 []) from by kernel_rfl]
                    refine wpAnyH_take (i := 16) (v := .bool false) hop16 hNS (by rw [← hops]; kernel_rfl) (by rw [← hops]; kernel_rfl) (hQp _ _) (.inl ⟨(by rfl), fun wz hz => by
                        have hW' := hz
                        first | (go_simp; done) | (obtain ⟨z0, z1, z2, -, -⟩ := hF.out _ hW'; go_simp)⟩) hW' ?_
                    (try simp only [Act.put, List.setIfInBounds_toArray, List.set_cons_zero, List.set_cons_succ])
                    rw [show (fsH 17 16 []).setIfInBounds 16 true = (fsH 17 17 []) from by kernel_rfl]
                    refine wpAnyH_done (by rw [← hops]; kernel_rfl) ?_ _
                    rw [← hQQ]
                    refine NoPanic.normal ?_
                    go_wp2_with fail
                    go_roundw
                    case rel => exact ⟨i + 1, hlt, by go_num, Lib.hid (kept_trans hB0.out hW')⟩
                    case measure => simp [intOf]; omega
                have H10_11_12_13_14 : ∀ (s54 s55 s56 s57 s58 s60 s61 s62 s64 s65 s66 s67 s69 s70 : Value) (v59 : Value) (p63 : Nat) (X : World), Below W0.heap.size W0 X → NewR W0.heap.size X v59 r → CellsAt X (some ⟨p63, 0, none⟩) [.int .i64 n] → wpAnyH Try.prog .any ops QQ (fun Z => Below W0.heap.size W0 Z) 3 (fsH 17 10 [11, 12, 13, 14]) ({ tmps := #[ptV (.slice a n c) win, .pointer (some ⟨w.heap.size, 0, none⟩), u2, .pointer (some ⟨bq, 0, none⟩), .slice (some ⟨ba, 0, none⟩) mb ca, .slice (some ⟨bb, 0, none⟩) mb cb, .int .i64 i, u7, u8, u9, u10, u11, u12, u13, u14, u15, u16, u17, u18, u19, u20, u21, u22, u23, u24, u25, u26, u27, u28, u29, u30, u31, u32, u33, .agg #[.slice (some ⟨gq, 0, none⟩) (n + 1) cq, .int .i64 win], .bool true, .bool false, undef, undef, undef, undef, undef, undef, .slice (some ⟨ba, 0, none⟩) mb ca, .int .i64 mb, .slice (some ⟨bb, 0, none⟩) mb cb, .int .i64 mb, .bool false, .int .i64 i, .slice (some ⟨ba, 0, none⟩) mb ca, .int .i64 mb, .bool true, u52, u53, s54, s55, s56, s57, s58, v59, s60, s61, s62, .slice (some ⟨p63, 0, none⟩) 1 1, s64, s65, s66, s67, .slice av (lr + 1) cv, s69, s70, undef, undef, undef, undef, undef, undef, undef, undef, undef, undef, undef, undef, undef, undef, undef, undef, undef, undef, undef, undef, undef, undef, undef, undef, undef, undef, undef, undef], defers := [] }) X := by
                  as_aux_lemma =>
                  intro s54 s55 s56 s57 s58 s60 s61 s62 s64 s65 s66 s67 s69 s70 v59 p63 X hW' f59 f63
                  refine wpAnyH_all (rs := [10]) (by rw [← hops]; kernel_rfl) (by simp) ?_
                  intro ix hix
                  simp only [List.mem_cons, List.not_mem_nil, or_false] at hix
                  rcases hix with rfl
                  · refine held_op hop10 (by rfl) (fun K' hK => ?_)
                    refine app_one (.tmp 59) (.tmp 63) rfl W0.heap.size hW'.size v59 r (by rfl) f59 (by omega) p63 n (by rfl) f63 ?_
                    intro v64 Y f64 hk ho
                    replace hW' := hk _ _ (Nat.le_refl _) hW'
                    refine hK _ _ ⟨hW', ?_⟩
                    clear hK K'
                    (try simp only [Act.put, List.setIfInBounds_toArray, List.set_cons_zero, List.set_cons_succ])
                    rw [show (fsH 17 10 [11, 12, 13, 14]).setIfInBounds 10 true = (fsH 17 15 []) from by kernel_rfl]
                    exact H15 _ _ _ _ _ _ _ _ _ _ _ _ _ _ _ _ _ hW' f64
                have H5_6_7_8_9_11_12_13_14 : ∀ (s55 s56 s57 s59 s60 s61 s62 s64 s65 s66 s67 s69 s70 : Value) (p54 : Nat) (p63 : Nat) (X : World), Below W0.heap.size W0 X → NilB p54 X → CellsAt X (some ⟨p63, 0, none⟩) [.int .i64 n] → wpAnyH Try.prog .any ops QQ (fun Z => Below W0.heap.size W0 Z) 4 (fsH 17 5 [6, 7, 8, 9, 11, 12, 13, 14]) ({ tmps := #[ptV (.slice a n c) win, .pointer (some ⟨w.heap.size, 0, none⟩), u2, .pointer (some ⟨bq, 0, none⟩), .slice (some ⟨ba, 0, none⟩) mb ca, .slice (some ⟨bb, 0, none⟩) mb cb, .int .i64 i, u7, u8, u9, u10, u11, u12, u13, u14, u15, u16, u17, u18, u19, u20, u21, u22, u23, u24, u25, u26, u27, u28, u29, u30, u31, u32, u33, .agg #[.slice (some ⟨gq, 0, none⟩) (n + 1) cq, .int .i64 win], .bool true, .bool false, undef, undef, undef, undef, undef, undef, .slice (some ⟨ba, 0, none⟩) mb ca, .int .i64 mb, .slice (some ⟨bb, 0, none⟩) mb cb, .int .i64 mb, .bool false, .int .i64 i, .slice (some ⟨ba, 0, none⟩) mb ca, .int .i64 mb, .bool true, u52, u53, .slice (some ⟨p54, 0, none⟩) 0 0, s55, s56, s57, .slice au lr cu, s59, s60, s61, s62, .slice (some ⟨p63, 0, none⟩) 1 1, s64, s65, s66, s67, .slice av (lr + 1) cv, s69, s70, undef, undef, undef, undef, undef, undef, undef, undef, undef, undef, undef, undef, undef, undef, undef, undef, undef, undef, undef, undef, undef, undef, undef, undef, undef, undef, undef, undef], defers := [] }) X := by
                  as_aux_lemma =>
                  intro s55 s56 s57 s59 s60 s61 s62 s64 s65 s66 s67 s69 s70 p54 p63 X hW' f54 f63
                  refine wpAnyH_all (rs := [5]) (by rw [← hops]; kernel_rfl) (by simp) ?_
                  intro ix hix
                  simp only [List.mem_cons, List.not_mem_nil, or_false] at hix
                  rcases hix with rfl
                  · refine held_op hop5 (by rfl) (fun K' hK => ?_)
                    refine app_first (.tmp 54) (.tmp 58) rfl p54 f54 (by rfl) (.slice au lr cu) r (by rfl) (hF.out _ hW').2.2.2.1 (by omega) W0.heap.size hW'.size ?_
                    intro v59 Y f59 hb
                    replace f63 := f63.later hb
                    replace hW' := kept_trans hW' hb
                    refine hK _ _ ⟨hW', ?_⟩
                    clear hK K'
                    (try simp only [Act.put, List.setIfInBounds_toArray, List.set_cons_zero, List.set_cons_succ])
                    rw [show (fsH 17 5 [6, 7, 8, 9, 11, 12, 13, 14]).setIfInBounds 5 true = (fsH 17 10 [11, 12, 13, 14]) from by kernel_rfl]
                    exact H10_11_12_13_14 _ _ _ _ _ _ _ _ _ _ _ _ _ _ _ _ _ hW' f59 f63
                have H9_11_12_13_14 : ∀ (s54 s55 s56 s57 s58 s60 s61 s63 s64 s65 s66 s67 s69 s70 : Value) (v59 : Value) (X : World), Below W0.heap.size W0 X → NewR W0.heap.size X v59 r → wpAnyH Try.prog .any ops QQ (fun Z => Below W0.heap.size W0 Z) 4 (fsH 17 9 [11, 12, 13, 14]) ({ tmps := #[ptV (.slice a n c) win, .pointer (some ⟨w.heap.size, 0, none⟩), u2, .pointer (some ⟨bq, 0, none⟩), .slice (some ⟨ba, 0, none⟩) mb ca, .slice (some ⟨bb, 0, none⟩) mb cb, .int .i64 i, u7, u8, u9, u10, u11, u12, u13, u14, u15, u16, u17, u18, u19, u20, u21, u22, u23, u24, u25, u26, u27, u28, u29, u30, u31, u32, u33, .agg #[.slice (some ⟨gq, 0, none⟩) (n + 1) cq, .int .i64 win], .bool true, .bool false, undef, undef, undef, undef, undef, undef, .slice (some ⟨ba, 0, none⟩) mb ca, .int .i64 mb, .slice (some ⟨bb, 0, none⟩) mb cb, .int .i64 mb, .bool false, .int .i64 i, .slice (some ⟨ba, 0, none⟩) mb ca, .int .i64 mb, .bool true, u52, u53, s54, s55, s56, s57, s58, v59, s60, s61, .int .i64 n, s63, s64, s65, s66, s67, .slice av (lr + 1) cv, s69, s70, undef, undef, undef, undef, undef, undef, undef, undef, undef, undef, undef, undef, undef, undef, undef, undef, undef, undef, undef, undef, undef, undef, undef, undef, undef, undef, undef, undef], defers := [] }) X := by
                  as_aux_lemma =>
                  intro s54 s55 s56 s57 s58 s60 s61 s63 s64 s65 s66 s67 s69 s70 v59 X hW' f59
                  refine wpAnyH_all (rs := [9]) (by rw [← hops]; kernel_rfl) (by simp) ?_
                  intro ix hix
                  simp only [List.mem_cons, List.not_mem_nil, or_false] at hix
                  rcases hix with rfl
                  · refine held_op hop9 (by rfl) (fun K' hK => ?_)
                    go_simp
                    have f63 := cells_lit X [.int .i64 n] 3
                    replace f59 := f59.later (kept_new X (.cells #[.int .i64 n] 3))
                    replace hW' := kept_trans hW' (kept_new X (.cells #[.int .i64 n] 3))
                    refine hK _ _ ⟨hW', ?_⟩
                    clear hK K'
                    (try simp only [Act.put, List.setIfInBounds_toArray, List.set_cons_zero, List.set_cons_succ])
                    rw [show (fsH 17 9 [11, 12, 13, 14]).setIfInBounds 9 true = (fsH 17 10 [11, 12, 13, 14]) from by kernel_rfl]
                    exact H10_11_12_13_14 _ _ _ _ _ _ _ _ _ _ _ _ _ _ _ _ _ hW' f59 f63
                have H0_1_2_3_4_6_7_8_9_11_12_13_14 : ∀ (s54 s55 s56 s57 s59 s60 s61 s62 s64 s65 s66 s67 s69 s70 : Value) (p63 : Nat) (X : World), Below W0.heap.size W0 X → CellsAt X (some ⟨p63, 0, none⟩) [.int .i64 n] → wpAnyH Try.prog .any ops QQ (fun Z => Below W0.heap.size W0 Z) 5 (fsH 17 0 [1, 2, 3, 4, 6, 7, 8, 9, 11, 12, 13, 14]) ({ tmps := #[ptV (.slice a n c) win, .pointer (some ⟨w.heap.size, 0, none⟩), u2, .pointer (some ⟨bq, 0, none⟩), .slice (some ⟨ba, 0, none⟩) mb ca, .slice (some ⟨bb, 0, none⟩) mb cb, .int .i64 i, u7, u8, u9, u10, u11, u12, u13, u14, u15, u16, u17, u18, u19, u20, u21, u22, u23, u24, u25, u26, u27, u28, u29, u30, u31, u32, u33, .agg #[.slice (some ⟨gq, 0, none⟩) (n + 1) cq, .int .i64 win], .bool true, .bool false, undef, undef, undef, undef, undef, undef, .slice (some ⟨ba, 0, none⟩) mb ca, .int .i64 mb, .slice (some ⟨bb, 0, none⟩) mb cb, .int .i64 mb, .bool false, .int .i64 i, .slice (some ⟨ba, 0, none⟩) mb ca, .int .i64 mb, .bool true, u52, u53, s54, s55, s56, s57, .slice au lr cu, s59, s60, s61, s62, .slice (some ⟨p63, 0, none⟩) 1 1, s64, s65, s66, s67, .slice av (lr + 1) cv, s69, s70, undef, undef, undef, undef, undef, undef, undef, undef, undef, undef, undef, undef, undef, undef, undef, undef, undef, undef, undef, undef, undef, undef, undef, undef, undef, undef, undef, undef], defers := [] }) X := by
                  as_aux_lemma =>
                  intro s54 s55 s56 s57 s59 s60 s61 s62 s64 s65 s66 s67 s69 s70 p63 X hW' f63
                  refine wpAnyH_all (rs := [0]) (by rw [← hops]; kernel_rfl) (by simp) ?_
                  intro ix hix
                  simp only [List.mem_cons, List.not_mem_nil, or_false] at hix
                  rcases hix with rfl
                  · refine held_op hop0 (by rfl) (fun K' hK => ?_)
                    go_simp
                    have f54 : NilB X.heap.size (X.alloc (.cells #[] 3)) := World.alloc_heap_new X _
                    replace f63 := f63.later (kept_new X (.cells #[] 3))
                    replace hW' := kept_trans hW' (kept_new X (.cells #[] 3))
                    refine hK _ _ ⟨hW', ?_⟩
                    clear hK K'
                    (try simp only [Act.put, List.setIfInBounds_toArray, List.set_cons_zero, List.set_cons_succ])
                    rw [show (fsH 17 0 [1, 2, 3, 4, 6, 7, 8, 9, 11, 12, 13, 14]).setIfInBounds 0 true = (fsH 17 5 [6, 7, 8, 9, 11, 12, 13, 14]) from by kernel_rfl]
                    exact H5_6_7_8_9_11_12_13_14 _ _ _ _ _ _ _ _ _ _ _ _ _ _ _ _ hW' f54 f63
                have H5_6_7_8_11_12_13_14 : ∀ (s55 s56 s57 s59 s60 s61 s63 s64 s65 s66 s67 s69 s70 : Value) (p54 : Nat) (X : World), Below W0.heap.size W0 X → NilB p54 X → wpAnyH Try.prog .any ops QQ (fun Z => Below W0.heap.size W0 Z) 5 (fsH 17 5 [6, 7, 8, 11, 12, 13, 14]) ({ tmps := #[ptV (.slice a n c) win, .pointer (some ⟨w.heap.size, 0, none⟩), u2, .pointer (some ⟨bq, 0, none⟩), .slice (some ⟨ba, 0, none⟩) mb ca, .slice (some ⟨bb, 0, none⟩) mb cb, .int .i64 i, u7, u8, u9, u10, u11, u12, u13, u14, u15, u16, u17, u18, u19, u20, u21, u22, u23, u24, u25, u26, u27, u28, u29, u30, u31, u32, u33, .agg #[.slice (some ⟨gq, 0, none⟩) (n + 1) cq, .int .i64 win], .bool true, .bool false, undef, undef, undef, undef, undef, undef, .slice (some ⟨ba, 0, none⟩) mb ca, .int .i64 mb, .slice (some ⟨bb, 0, none⟩) mb cb, .int .i64 mb, .bool false, .int .i64 i, .slice (some ⟨ba, 0, none⟩) mb ca, .int .i64 mb, .bool true, u52, u53, .slice (some ⟨p54, 0, none⟩) 0 0, s55, s56, s57, .slice au lr cu, s59, s60, s61, .int .i64 n, s63, s64, s65, s66, s67, .slice av (lr + 1) cv, s69, s70, undef, undef, undef, undef, undef, undef, undef, undef, undef, undef, undef, undef, undef, undef, undef, undef, undef, undef, undef, undef, undef, undef, undef, undef, undef, undef, undef, undef], defers := [] }) X := by
                  as_aux_lemma =>
                  intro s55 s56 s57 s59 s60 s61 s63 s64 s65 s66 s67 s69 s70 p54 X hW' f54
                  refine wpAnyH_all (rs := [5, 9]) (by rw [← hops]; kernel_rfl) (by simp) ?_
                  intro ix hix
                  simp only [List.mem_cons, List.not_mem_nil, or_false] at hix
                  rcases hix with rfl | rfl
                  · refine held_op hop5 (by rfl) (fun K' hK => ?_)
                    refine app_first (.tmp 54) (.tmp 58) rfl p54 f54 (by rfl) (.slice au lr cu) r (by rfl) (hF.out _ hW').2.2.2.1 (by omega) W0.heap.size hW'.size ?_
                    intro v59 Y f59 hb
                    replace hW' := kept_trans hW' hb
                    refine hK _ _ ⟨hW', ?_⟩
                    clear hK K'
                    (try simp only [Act.put, List.setIfInBounds_toArray, List.set_cons_zero, List.set_cons_succ])
                    rw [show (fsH 17 5 [6, 7, 8, 11, 12, 13, 14]).setIfInBounds 5 true = (fsH 17 9 [11, 12, 13, 14]) from by kernel_rfl]
                    exact H9_11_12_13_14 _ _ _ _ _ _ _ _ _ _ _ _ _ _ _ _ hW' f59
                  · refine held_op hop9 (by rfl) (fun K' hK => ?_)
                    go_simp
                    have f63 := cells_lit X [.int .i64 n] 3
                    replace f54 := f54.later (kept_new X (.cells #[.int .i64 n] 3))
                    replace hW' := kept_trans hW' (kept_new X (.cells #[.int .i64 n] 3))
                    refine hK _ _ ⟨hW', ?_⟩
                    clear hK K'
                    (try simp only [Act.put, List.setIfInBounds_toArray, List.set_cons_zero, List.set_cons_succ])
                    rw [show (fsH 17 5 [6, 7, 8, 11, 12, 13, 14]).setIfInBounds 9 true = (fsH 17 5 [6, 7, 8, 9, 11, 12, 13, 14]) from by kernel_rfl]
                    exact H5_6_7_8_9_11_12_13_14 _ _ _ _ _ _ _ _ _ _ _ _ _ _ _ _ hW' f54 f63
                have H0_1_2_3_4_6_7_8_11_12_13_14 : ∀ (s54 s55 s56 s57 s59 s60 s61 s63 s64 s65 s66 s67 s69 s70 : Value) (X : World), Below W0.heap.size W0 X → wpAnyH Try.prog .any ops QQ (fun Z => Below W0.heap.size W0 Z) 6 (fsH 17 0 [1, 2, 3, 4, 6, 7, 8, 11, 12, 13, 14]) ({ tmps := #[ptV (.slice a n c) win, .pointer (some ⟨w.heap.size, 0, none⟩), u2, .pointer (some ⟨bq, 0, none⟩), .slice (some ⟨ba, 0, none⟩) mb ca, .slice (some ⟨bb, 0, none⟩) mb cb, .int .i64 i, u7, u8, u9, u10, u11, u12, u13, u14, u15, u16, u17, u18, u19, u20, u21, u22, u23, u24, u25, u26, u27, u28, u29, u30, u31, u32, u33, .agg #[.slice (some ⟨gq, 0, none⟩) (n + 1) cq, .int .i64 win], .bool true, .bool false, undef, undef, undef, undef, undef, undef, .slice (some ⟨ba, 0, none⟩) mb ca, .int .i64 mb, .slice (some ⟨bb, 0, none⟩) mb cb, .int .i64 mb, .bool false, .int .i64 i, .slice (some ⟨ba, 0, none⟩) mb ca, .int .i64 mb, .bool true, u52, u53, s54, s55, s56, s57, .slice au lr cu, s59, s60, s61, .int .i64 n, s63, s64, s65, s66, s67, .slice av (lr + 1) cv, s69, s70, undef, undef, undef, undef, undef, undef, undef, undef, undef, undef, undef, undef, undef, undef, undef, undef, undef, undef, undef, undef, undef, undef, undef, undef, undef, undef, undef, undef], defers := [] }) X := by
                  as_aux_lemma =>
                  intro s54 s55 s56 s57 s59 s60 s61 s63 s64 s65 s66 s67 s69 s70 X hW'
                  refine wpAnyH_all (rs := [0, 9]) (by rw [← hops]; kernel_rfl) (by simp) ?_
                  intro ix hix
                  simp only [List.mem_cons, List.not_mem_nil, or_false] at hix
                  rcases hix with rfl | rfl
                  · refine held_op hop0 (by rfl) (fun K' hK => ?_)
                    go_simp
                    have f54 : NilB X.heap.size (X.alloc (.cells #[] 3)) := World.alloc_heap_new X _
                    replace hW' := kept_trans hW' (kept_new X (.cells #[] 3))
                    refine hK _ _ ⟨hW', ?_⟩
                    clear hK K'
                    (try simp only [Act.put, List.setIfInBounds_toArray, List.set_cons_zero, List.set_cons_succ])
                    rw [show (fsH 17 0 [1, 2, 3, 4, 6, 7, 8, 11, 12, 13, 14]).setIfInBounds 0 true = (fsH 17 5 [6, 7, 8, 11, 12, 13, 14]) from by kernel_rfl]
                    exact H5_6_7_8_11_12_13_14 _ _ _ _ _ _ _ _ _ _ _ _ _ _ _ hW' f54
                  · refine held_op hop9 (by rfl) (fun K' hK => ?_)
                    go_simp
                    have f63 := cells_lit X [.int .i64 n] 3
                    replace hW' := kept_trans hW' (kept_new X (.cells #[.int .i64 n] 3))
                    refine hK _ _ ⟨hW', ?_⟩
                    clear hK K'
                    (try simp only [Act.put, List.setIfInBounds_toArray, List.set_cons_zero, List.set_cons_succ])
                    rw [show (fsH 17 0 [1, 2, 3, 4, 6, 7, 8, 11, 12, 13, 14]).setIfInBounds 9 true = (fsH 17 0 [1, 2, 3, 4, 6, 7, 8, 9, 11, 12, 13, 14]) from by kernel_rfl]
                    exact H0_1_2_3_4_6_7_8_9_11_12_13_14 _ _ _ _ _ _ _ _ _ _ _ _ _ _ _ _ hW' f63
                have hsz : ops.size = 17 := by rw [← hops]; rfl
                rw [hsz]
                rw [show Array.replicate 17 false = (fsH 17 0 []) from by rfl]
                refine wpAnyH_take (i := 1) (v := .slice (some ⟨ba, 0, none⟩) mb ca) hop1 hNS (by rw [← hops]; kernel_rfl) (by rw [← hops]; kernel_rfl) (hQp _ _) (.inl ⟨(by rfl), fun wz hz => by
                    have hW' := hz
                    first | (go_simp; done) | (obtain ⟨z0, z1, z2, -, -⟩ := hF.out _ hW'; go_simp)⟩) hW' ?_
                (try simp only [Act.put, List.setIfInBounds_toArray, List.set_cons_zero, List.set_cons_succ])
                rw [show (fsH 17 0 []).setIfInBounds 1 true = (fsH 17 0 [1]) from by kernel_rfl]
                refine wpAnyH_take (i := 2) (v := .int .i64 i) hop2 hNS (by rw [← hops]; kernel_rfl) (by rw [← hops]; kernel_rfl) (hQp _ _) (.inl ⟨(by rfl), fun wz hz => by
                    have hW' := hz
                    first | (go_simp; done) | (obtain ⟨z0, z1, z2, -, -⟩ := hF.out _ hW'; go_simp)⟩) hW' ?_
                (try simp only [Act.put, List.setIfInBounds_toArray, List.set_cons_zero, List.set_cons_succ])
                rw [show (fsH 17 0 [1]).setIfInBounds 2 true = (fsH 17 0 [1, 2]) from by kernel_rfl]
                refine wpAnyH_take (i := 3) (v := .pointer (some ⟨ba, i, none⟩)) hop3 hNS (by rw [← hops]; kernel_rfl) (by rw [← hops]; kernel_rfl) (hQp _ _) (.inl ⟨(by rfl), fun wz hz => by
                    have hW' := hz
                    first | (go_simp; done) | (obtain ⟨z0, z1, z2, -, -⟩ := hF.out _ hW'; go_simp)⟩) hW' ?_
                (try simp only [Act.put, List.setIfInBounds_toArray, List.set_cons_zero, List.set_cons_succ])
                rw [show (fsH 17 0 [1, 2]).setIfInBounds 3 true = (fsH 17 0 [1, 2, 3]) from by kernel_rfl]
                refine wpAnyH_take (i := 4) (v := .slice au lr cu) hop4 hNS (by rw [← hops]; kernel_rfl) (by rw [← hops]; kernel_rfl) (hQp _ _) (.inl ⟨(by rfl), fun wz hz => by
                    have hW' := hz
                    first | (go_simp; done) | (obtain ⟨z0, z1, z2, -, -⟩ := hF.out _ hW'; go_simp)⟩) hW' ?_
                (try simp only [Act.put, List.setIfInBounds_toArray, List.set_cons_zero, List.set_cons_succ])
                rw [show (fsH 17 0 [1, 2, 3]).setIfInBounds 4 true = (fsH 17 0 [1, 2, 3, 4]) from by kernel_rfl]
                refine wpAnyH_take (i := 6) (v := .pointer (some ⟨w.heap.size, 0, none⟩)) hop6 hNS (by rw [← hops]; kernel_rfl) (by rw [← hops]; kernel_rfl) (hQp _ _) (.inl ⟨(by rfl), fun wz hz => by
                    have hW' := hz
                    first | (go_simp; done) | (obtain ⟨z0, z1, z2, -, -⟩ := hF.out _ hW'; go_simp)⟩) hW' ?_
                (try simp only [Act.put, List.setIfInBounds_toArray, List.set_cons_zero, List.set_cons_succ])
                rw [show (fsH 17 0 [1, 2, 3, 4]).setIfInBounds 6 true = (fsH 17 0 [1, 2, 3, 4, 6]) from by kernel_rfl]
                refine wpAnyH_take (i := 7) (v := .slice a n c) hop7 hNS (by rw [← hops]; kernel_rfl) (by rw [← hops]; kernel_rfl) (hQp _ _) (.inl ⟨(by rfl), fun wz hz => by
                    have hW' := hz
                    first | (go_simp; done) | (obtain ⟨z0, z1, z2, -, -⟩ := hF.out _ hW'; go_simp)⟩) hW' ?_
                (try simp only [Act.put, List.setIfInBounds_toArray, List.set_cons_zero, List.set_cons_succ])
                rw [show (fsH 17 0 [1, 2, 3, 4, 6]).setIfInBounds 7 true = (fsH 17 0 [1, 2, 3, 4, 6, 7]) from by kernel_rfl]
                refine wpAnyH_take (i := 8) (v := .int .i64 n) hop8 hNS (by rw [← hops]; kernel_rfl) (by rw [← hops]; kernel_rfl) (hQp _ _) (.inl ⟨(by rfl), fun wz hz => by
                    have hW' := hz
                    first | (go_simp; done) | (obtain ⟨z0, z1, z2, -, -⟩ := hF.out _ hW'; go_simp)⟩) hW' ?_
                (try simp only [Act.put, List.setIfInBounds_toArray, List.set_cons_zero, List.set_cons_succ])
                rw [show (fsH 17 0 [1, 2, 3, 4, 6, 7]).setIfInBounds 8 true = (fsH 17 0 [1, 2, 3, 4, 6, 7, 8]) from by kernel_rfl]
                refine wpAnyH_take (i := 11) (v := .slice (some ⟨bb, 0, none⟩) mb cb) hop11 hNS (by rw [← hops]; kernel_rfl) (by rw [← hops]; kernel_rfl) (hQp _ _) (.inl ⟨(by rfl), fun wz hz => by
                    have hW' := hz
                    first | (go_simp; done) | (obtain ⟨z0, z1, z2, -, -⟩ := hF.out _ hW'; go_simp)⟩) hW' ?_
                (try simp only [Act.put, List.setIfInBounds_toArray, List.set_cons_zero, List.set_cons_succ])
                rw [show (fsH 17 0 [1, 2, 3, 4, 6, 7, 8]).setIfInBounds 11 true = (fsH 17 0 [1, 2, 3, 4, 6, 7, 8, 11]) from by kernel_rfl]
                refine wpAnyH_take (i := 12) (v := .int .i64 i) hop12 hNS (by rw [← hops]; kernel_rfl) (by rw [← hops]; kernel_rfl) (hQp _ _) (.inl ⟨(by rfl), fun wz hz => by
                    have hW' := hz
                    first | (go_simp; done) | (obtain ⟨z0, z1, z2, -, -⟩ := hF.out _ hW'; go_simp)⟩) hW' ?_
                (try simp only [Act.put, List.setIfInBounds_toArray, List.set_cons_zero, List.set_cons_succ])
                rw [show (fsH 17 0 [1, 2, 3, 4, 6, 7, 8, 11]).setIfInBounds 12 true = (fsH 17 0 [1, 2, 3, 4, 6, 7, 8, 11, 12]) from by kernel_rfl]
                refine wpAnyH_take (i := 13) (v := .pointer (some ⟨bb, i, none⟩)) hop13 hNS (by rw [← hops]; kernel_rfl) (by rw [← hops]; kernel_rfl) (hQp _ _) (.inl ⟨(by rfl), fun wz hz => by
                    have hW' := hz
                    first | (go_simp; done) | (obtain ⟨z0, z1, z2, -, -⟩ := hF.out _ hW'; go_simp)⟩) hW' ?_
                (try simp only [Act.put, List.setIfInBounds_toArray, List.set_cons_zero, List.set_cons_succ])
                rw [show (fsH 17 0 [1, 2, 3, 4, 6, 7, 8, 11, 12]).setIfInBounds 13 true = (fsH 17 0 [1, 2, 3, 4, 6, 7, 8, 11, 12, 13]) from by kernel_rfl]
                refine wpAnyH_take (i := 14) (v := .slice av (lr + 1) cv) hop14 hNS (by rw [← hops]; kernel_rfl) (by rw [← hops]; kernel_rfl) (hQp _ _) (.inl ⟨(by rfl), fun wz hz => by
                    have hW' := hz
                    first | (go_simp; done) | (obtain ⟨z0, z1, z2, -, -⟩ := hF.out _ hW'; go_simp)⟩) hW' ?_
                (try simp only [Act.put, List.setIfInBounds_toArray, List.set_cons_zero, List.set_cons_succ])
                rw [show (fsH 17 0 [1, 2, 3, 4, 6, 7, 8, 11, 12, 13]).setIfInBounds 14 true = (fsH 17 0 [1, 2, 3, 4, 6, 7, 8, 11, 12, 13, 14]) from by kernel_rfl]
                exact H0_1_2_3_4_6_7_8_11_12_13_14 _ _ _ _ _ _ _ _ _ _ _ _ _ _ _ hW' 
              · obtain rfl : i = mb := by omega
                have hlti : ¬ (i : Int) < i := by omega
                go_wp2_with fail
                go_meet
                exact hB
          case rest =>
          have hBc := kept_trans hB6.out hcut.out
          have hKc := hKX.out _ hBc
          have c0 := hKc.1.1.c0
          have d0 := hKc.2.1.c0
          have hOc := row_later hO4.out hBc
          have x0 := hOc.cellAt (n * 6) (by omega)
          rw [spsCells_app, List.getElem?_append_right (by rw [spsCells_len, hn.out]; exact Nat.le_refl _), spsCells_len, hn.out, Nat.sub_self] at x0
          have x0' : wc.cell? ⟨gq, n * 6, none⟩ = some (.bool false) := x0
          have x1 := hOc.frozenAt (n * 6)
          have hst := (hOc.stored (n * 6) (.bool true)).1
          rw [show (spsCells (L ++ [(onceP, Value.slice none 0 0)])).set (n * 6) (.bool true) = spsCells (L ++ [(onceN, Value.slice none 0 0)]) from by rw [← hn.out]; exact spsCells_neg L _] at hst
          have hlw : w.heap.size < gq := by have := hlt2; omega
          have hP5 : PK w (.slice a n c) win (wc.setCell ⟨gq, n * 6, none⟩ (.bool true)) := ⟨block_far hKc.1.1 (by omega) _ _, hKc.1.2.setCell (p := ⟨gq, n * 6, none⟩) (by simp; omega) _⟩
          have hB5 : PtBox bq (.slice (some ⟨gq, 0, none⟩) (n + 1) cq) win (wc.setCell ⟨gq, n * 6, none⟩ (.bool true)) := block_far hKc.2.1 (by omega) _ _
          have hS5 : SpsL (wc.setCell ⟨gq, n * 6, none⟩ (.bool true)) (.slice (some ⟨gq, 0, none⟩) (n + 1) cq) (L ++ [(onceN, .slice none 0 0)]) := by
            refine ⟨?_, fun x hx => ?_⟩
            · obtain ⟨a', c', e', hc⟩ := cells_of_row hst
              exact ⟨a', c', by rw [e']; simp [hn.out], hc⟩
            · rcases List.mem_append.1 hx with hx | hx
              · exact (hHL.out.later hP5.2).2 x hx
              · obtain rfl := List.mem_singleton.1 hx
                exact ⟨none, 0, rfl, .inl rfl⟩
          have hK5 : PqK w (.slice a n c) win bq (.slice (some ⟨gq, 0, none⟩) (n + 1) cq) (L ++ [(onceN, .slice none 0 0)]) (wc.setCell ⟨gq, n * 6, none⟩ (.bool true)) := ⟨hP5, hB5, hS5⟩
          have hua5 : OwnRows (wc.setCell ⟨gq, n * 6, none⟩ (.bool true)) W4.heap.size (.slice aa mb ca) R0 := by
            obtain ⟨vb, k1, k2⟩ := hua6.out.later hcut.out
            exact ⟨vb, ownsRow_setCell_below k1 hgW _, fun i u r hu hr => ownsRow_setCell_below (k2 i u r hu hr) hgW _⟩
          replace hK5 := Lib.hid hK5
          replace hua5 := Lib.hid hua5
          have hsm := may_neg hM.out hM1.out
          have hRN : rowsR (ss ++ [onceN]) win = R0 := by rw [← hR0.out]; exact rowsR_neg rfl hM.out hsm
          have hAN : afterL (ss ++ [onceN]) win = afterL ss win ++ [(n : Int)] := by rw [afterL_neg rfl hM.out hsm, hsl.out]
          have hAl : (afterL ss win).length ≤ 100 := by
            unfold afterL
            rw [if_pos hM.out]
            unfold betL
            rw [fromL_len]
            have := tailP_bd ss (by rw [hsl.out]; omega)
            have := hsl.out
            omega
          rw [hRN] at hRn
          rw [hAN] at hAn
          obtain ⟨A0, hA0⟩ : ∃ A, afterL ss win = A := ⟨_, rfl⟩
          rw [hA0] at hAp hAn hAl
          clear x0 hst hOc hP5 hB5 hS5 hKc hcut hua6 hub6 hB6 hKX hO4 hRN hAN hA0 hsm hM1 hM hBc
          have y0 := lcell c0 (Below.refl _ _)
          go_upto_region 16 with fail
          obtain ⟨W5, hW5⟩ : ∃ W5, wc.setCell ⟨gq, n * 6, none⟩ (.bool true) = W5 := ⟨_, rfl⟩
          rw [hW5] at hK5 hua5 ⊢
          clear c0 d0 x0' x1 hW5 y0
          have hKX : Hid (∀ X, Below W5.drew.heap.size W5.drew X → PqK w (.slice a n c) win bq (.slice (some ⟨gq, 0, none⟩) (n + 1) cq) (L ++ [(onceN, .slice none 0 0)]) X) := fun X hX => hK5.out.later (kept_trans (below_drew W5) hX)
          have hua : Hid (∀ X, Below W5.drew.heap.size W5.drew X → OwnRows X 0 (.slice aa mb ca) R0) := fun X hX => (hua5.out.later (kept_trans (below_drew W5) hX)).base (Nat.zero_le _)
          obtain ⟨W0, hW0⟩ : ∃ W0, W5.drew = W0 := ⟨_, rfl⟩
          rw [hW0] at hKX hua
          have hB16 := Lib.hid (hKX.out _ (Below.refl _ _)).1.2
          have hF : Hid (∀ X, Below W0.heap.size W0 X → X.cell? ⟨bq, 0, none⟩ = some (.slice (some ⟨gq, 0, none⟩) (n + 1) cq) ∧ X.cell? ⟨bq, 1, none⟩ = some (.int .i64 win) ∧ X.cell? ⟨w.heap.size, 0, none⟩ = some (.slice a n c) ∧ X.cell? ⟨w.heap.size, 1, none⟩ = some (.int .i64 win)) := fun X hX => by
            have h := hKX.out X hX
            exact ⟨h.2.1.c0, h.2.1.c1, h.1.1.c0, h.1.1.c1⟩
          have D79 : Hid (∀ X, Below W0.heap.size W0 X → Calls Try.prog 9 #[.agg #[.slice (some ⟨gq, 0, none⟩) (n + 1) cq, .int .i64 win]] X fun e Y => ∃ u, e = .returned u ∧ OwnRows Y 0 u R0 ∧ Below X.heap.size X Y) := fun X hX => by
            refine (hRn.out _ X (hKX.out X hX)).mono ?_
            rintro e Y ⟨u, h1, h2, h3⟩
            exact ⟨u, h1, h2.base (Nat.zero_le _), h3⟩
          have D81 : Hid (∀ X (u : Value), OwnRows X 0 u R0 → Below W0.heap.size W0 X → Calls Try.prog 18 #[u, .slice aa mb ca] X fun e Y => e = .returned (.bool true) ∧ Below X.heap.size X Y) := fun X u hu hX => by
            obtain ⟨vs1, k1⟩ := hu.at
            obtain ⟨vs2, k2⟩ := (hua.out X hX).at
            exact rows2_W k1 k2 (by have := hbd0.out.1; omega) hbd0.out.2
          have D84 : Hid (∀ X, Below W0.heap.size W0 X → Calls Try.prog 15 #[.agg #[.slice (some ⟨gq, 0, none⟩) (n + 1) cq, .int .i64 win]] X fun e Y => ∃ u, e = .returned u ∧ OldR W0.heap.size Y.heap.size Y u (A0 ++ [(n : Int)]) ∧ Below X.heap.size X Y) := fun X hX => by
            refine (hAn.out _ X (hKX.out X hX)).mono ?_
            rintro e Y ⟨u, h1, h2, h3⟩
            exact ⟨u, h1, OldR.of h2 (Nat.le_trans hX.size h3.size), h3⟩
          have D87 : Hid (∀ X, Below W0.heap.size W0 X → Calls Try.prog 15 #[.agg #[.slice a n c, .int .i64 win]] X fun e Y => ∃ u, e = .returned u ∧ NmsAt Y u A0 ∧ Below X.heap.size X Y) := fun X hX => by
            refine (hAp.out X (hKX.out X hX).1).mono ?_
            rintro e Y ⟨u, h1, h2, h3⟩
            exact ⟨u, h1, nms_own h2, h3⟩
          have D94 : Hid (∀ X (u v : Value), NmsAt X u (A0 ++ [(n : Int)]) → NmsAt X v (A0 ++ [(n : Int)]) → Calls Try.prog 11 #[u, v] X fun e Y => e = .returned (.bool true) ∧ Below X.heap.size X Y) := fun X u v hu hv => by
            have := ints2_V (by rw [List.length_append]; unfold maxLen; simp; omega) (by rw [List.length_append]; unfold maxLen; simp; omega) X hu hv
            simpa using this
          have hW' := Below.refl W0.heap.size W0
          clear hRn hAn hAp hK5 hua5 hHL hua hRe hKX
          refine wp_region_noPanic ?_
          refine wp_region_held (S := fun Z => Below W0.heap.size W0 Z) hmx ?_
          try dsimp only [List.append]
          change wpAnyH _ _ _ _ _ _ _ _ W5.drew
          rw [hW0]
          generalize hops : (List.toArray _ : Array Oper) = ops
          generalize hQQ : NoPanic _ = QQ
          have hQp : ∀ (d : Option Tmp) (v : Value) (c : _) (a : Act) (w : World), QQ (.panic c) (a.put d v) w → QQ (.panic c) a w := by rw [← hQQ]; intro d v c a w h; exact h
          have hNS : Region.noSelect ops = true := by rw [← hops]; kernel_rfl
          obtain ⟨oo, hop0⟩ : ∃ o, ops[0]? = some o := ⟨_, by rw [← hops]; rfl⟩
          have hv := hop0
          rw [← hops] at hv
          simp only [List.getElem?_toArray, List.getElem?_cons_succ, List.getElem?_cons_zero, Option.some.injEq] at hv
          subst hv
          obtain ⟨oo, hop1⟩ : ∃ o, ops[1]? = some o := ⟨_, by rw [← hops]; rfl⟩
          have hv := hop1
          rw [← hops] at hv
          simp only [List.getElem?_toArray, List.getElem?_cons_succ, List.getElem?_cons_zero, Option.some.injEq] at hv
          subst hv
          obtain ⟨oo, hop2⟩ : ∃ o, ops[2]? = some o := ⟨_, by rw [← hops]; rfl⟩
          have hv := hop2
          rw [← hops] at hv
          simp only [List.getElem?_toArray, List.getElem?_cons_succ, List.getElem?_cons_zero, Option.some.injEq] at hv
          subst hv
          obtain ⟨oo, hop3⟩ : ∃ o, ops[3]? = some o := ⟨_, by rw [← hops]; rfl⟩
          have hv := hop3
          rw [← hops] at hv
          simp only [List.getElem?_toArray, List.getElem?_cons_succ, List.getElem?_cons_zero, Option.some.injEq] at hv
          subst hv
          obtain ⟨oo, hop4⟩ : ∃ o, ops[4]? = some o := ⟨_, by rw [← hops]; rfl⟩
          have hv := hop4
          rw [← hops] at hv
          simp only [List.getElem?_toArray, List.getElem?_cons_succ, List.getElem?_cons_zero, Option.some.injEq] at hv
          subst hv
          obtain ⟨oo, hop5⟩ : ∃ o, ops[5]? = some o := ⟨_, by rw [← hops]; rfl⟩
          have hv := hop5
          rw [← hops] at hv
          simp only [List.getElem?_toArray, List.getElem?_cons_succ, List.getElem?_cons_zero, Option.some.injEq] at hv
          subst hv
          obtain ⟨oo, hop6⟩ : ∃ o, ops[6]? = some o := ⟨_, by rw [← hops]; rfl⟩
          have hv := hop6
          rw [← hops] at hv
          simp only [List.getElem?_toArray, List.getElem?_cons_succ, List.getElem?_cons_zero, Option.some.injEq] at hv
          subst hv
          obtain ⟨oo, hop7⟩ : ∃ o, ops[7]? = some o := ⟨_, by rw [← hops]; rfl⟩
          have hv := hop7
          rw [← hops] at hv
          simp only [List.getElem?_toArray, List.getElem?_cons_succ, List.getElem?_cons_zero, Option.some.injEq] at hv
          subst hv
          obtain ⟨oo, hop8⟩ : ∃ o, ops[8]? = some o := ⟨_, by rw [← hops]; rfl⟩
          have hv := hop8
          rw [← hops] at hv
          simp only [List.getElem?_toArray, List.getElem?_cons_succ, List.getElem?_cons_zero, Option.some.injEq] at hv
          subst hv
          obtain ⟨oo, hop9⟩ : ∃ o, ops[9]? = some o := ⟨_, by rw [← hops]; rfl⟩
          have hv := hop9
          rw [← hops] at hv
          simp only [List.getElem?_toArray, List.getElem?_cons_succ, List.getElem?_cons_zero, Option.some.injEq] at hv
          subst hv
          obtain ⟨oo, hop10⟩ : ∃ o, ops[10]? = some o := ⟨_, by rw [← hops]; rfl⟩
          have hv := hop10
          rw [← hops] at hv
          simp only [List.getElem?_toArray, List.getElem?_cons_succ, List.getElem?_cons_zero, Option.some.injEq] at hv
          subst hv
          obtain ⟨oo, hop11⟩ : ∃ o, ops[11]? = some o := ⟨_, by rw [← hops]; rfl⟩
          have hv := hop11
          rw [← hops] at hv
          simp only [List.getElem?_toArray, List.getElem?_cons_succ, List.getElem?_cons_zero, Option.some.injEq] at hv
          subst hv
          obtain ⟨oo, hop12⟩ : ∃ o, ops[12]? = some o := ⟨_, by rw [← hops]; rfl⟩
          have hv := hop12
          rw [← hops] at hv
          simp only [List.getElem?_toArray, List.getElem?_cons_succ, List.getElem?_cons_zero, Option.some.injEq] at hv
          subst hv
          obtain ⟨oo, hop13⟩ : ∃ o, ops[13]? = some o := ⟨_, by rw [← hops]; rfl⟩
          have hv := hop13
          rw [← hops] at hv
          simp only [List.getElem?_toArray, List.getElem?_cons_succ, List.getElem?_cons_zero, Option.some.injEq] at hv
          subst hv
          obtain ⟨oo, hop14⟩ : ∃ o, ops[14]? = some o := ⟨_, by rw [← hops]; rfl⟩
          have hv := hop14
          rw [← hops] at hv
          simp only [List.getElem?_toArray, List.getElem?_cons_succ, List.getElem?_cons_zero, Option.some.injEq] at hv
          subst hv
          obtain ⟨oo, hop15⟩ : ∃ o, ops[15]? = some o := ⟨_, by rw [← hops]; rfl⟩
          have hv := hop15
          rw [← hops] at hv
          simp only [List.getElem?_toArray, List.getElem?_cons_succ, List.getElem?_cons_zero, Option.some.injEq] at hv
          subst hv
          obtain ⟨oo, hop16⟩ : ∃ o, ops[16]? = some o := ⟨_, by rw [← hops]; rfl⟩
          have hv := hop16
          rw [← hops] at hv
          simp only [List.getElem?_toArray, List.getElem?_cons_succ, List.getElem?_cons_zero, Option.some.injEq] at hv
          subst hv
          obtain ⟨oo, hop17⟩ : ∃ o, ops[17]? = some o := ⟨_, by rw [← hops]; rfl⟩
          have hv := hop17
          rw [← hops] at hv
          simp only [List.getElem?_toArray, List.getElem?_cons_succ, List.getElem?_cons_zero, Option.some.injEq] at hv
          subst hv
          obtain ⟨oo, hop18⟩ : ∃ o, ops[18]? = some o := ⟨_, by rw [← hops]; rfl⟩
          have hv := hop18
          rw [← hops] at hv
          simp only [List.getElem?_toArray, List.getElem?_cons_succ, List.getElem?_cons_zero, Option.some.injEq] at hv
          subst hv
          obtain ⟨oo, hop19⟩ : ∃ o, ops[19]? = some o := ⟨_, by rw [← hops]; rfl⟩
          have hv := hop19
          rw [← hops] at hv
          simp only [List.getElem?_toArray, List.getElem?_cons_succ, List.getElem?_cons_zero, Option.some.injEq] at hv
          subst hv
          obtain ⟨oo, hop20⟩ : ∃ o, ops[20]? = some o := ⟨_, by rw [← hops]; rfl⟩
          have hv := hop20
          rw [← hops] at hv
          simp only [List.getElem?_toArray, List.getElem?_cons_succ, List.getElem?_cons_zero, Option.some.injEq] at hv
          subst hv
          obtain ⟨oo, hop21⟩ : ∃ o, ops[21]? = some o := ⟨_, by rw [← hops]; rfl⟩
          have hv := hop21
          rw [← hops] at hv
          simp only [List.getElem?_toArray, List.getElem?_cons_succ, List.getElem?_cons_zero, Option.some.injEq] at hv
          subst hv
          have H19 : ∀ (s0 s2 s5 s6 s7 s8 s9 s10 s11 s12 s13 s14 s15 s16 s17 s18 s19 s20 s21 s22 s23 s24 s25 s26 s27 s28 s29 s30 s31 s32 s33 s34 s35 s36 s37 s38 s39 s40 s41 s42 s43 s44 s45 s46 s47 s48 s49 s50 s51 s52 s53 s54 s55 s56 s57 s58 s59 s60 s61 s62 s63 s64 s65 s66 s67 s68 s69 s70 s71 s72 s73 s74 s75 s76 s77 s78 s79 s80 s81 s82 s83 s84 s85 s86 s87 s88 s89 s90 s91 s92 s93 s94 s95 s97 s98 : Value) (X : World), Below W0.heap.size W0 X → wpAnyH Try.prog .any ops QQ (fun Z => Below W0.heap.size W0 Z) 3 (fsH 22 19 []) ({ tmps := #[s0, .pointer (some ⟨w.heap.size, 0, none⟩), s2, .pointer (some ⟨bq, 0, none⟩), .slice aa mb ca, s5, s6, s7, s8, s9, s10, s11, s12, s13, s14, s15, s16, s17, s18, s19, s20, s21, s22, s23, s24, s25, s26, s27, s28, s29, s30, s31, s32, s33, s34, s35, s36, s37, s38, s39, s40, s41, s42, s43, s44, s45, s46, s47, s48, s49, s50, s51, s52, s53, s54, s55, s56, s57, s58, s59, s60, s61, s62, s63, s64, s65, s66, s67, s68, s69, s70, s71, s72, s73, s74, s75, s76, s77, s78, s79, s80, s81, s82, s83, s84, s85, s86, s87, s88, s89, s90, s91, s92, s93, s94, s95, .bool true, s97, s98], defers := [] }) X := by
            as_aux_lemma =>
            intro s0 s2 s5 s6 s7 s8 s9 s10 s11 s12 s13 s14 s15 s16 s17 s18 s19 s20 s21 s22 s23 s24 s25 s26 s27 s28 s29 s30 s31 s32 s33 s34 s35 s36 s37 s38 s39 s40 s41 s42 s43 s44 s45 s46 s47 s48 s49 s50 s51 s52 s53 s54 s55 s56 s57 s58 s59 s60 s61 s62 s63 s64 s65 s66 s67 s68 s69 s70 s71 s72 s73 s74 s75 s76 s77 s78 s79 s80 s81 s82 s83 s84 s85 s86 s87 s88 s89 s90 s91 s92 s93 s94 s95 s97 s98 X hW'
            refine wpAnyH_all (rs := [19]) (by rw [← hops]; kernel_rfl) (by simp) ?_
            intro ix hix
            simp only [List.mem_cons, List.not_mem_nil, or_false] at hix
            rcases hix with rfl
            · refine held_op hop19 (by rw [← hops]; kernel_rfl) (fun K' hK => ?_)
              go_simp
              refine (hW.out X).mono ?_
              rintro e Y ⟨rfl, hb⟩
              dsimp only
              replace hW' := kept_trans hW' hb
              refine hK _ _ ⟨hW', ?_⟩
              clear hK K'
              (try simp only [Act.put, List.setIfInBounds_toArray, List.set_cons_zero, List.set_cons_succ])
              rw [show (fsH 22 19 []).setIfInBounds 19 true = (fsH 22 20 []) from by kernel_rfl]
              refine wpAnyH_take (i := 20) (v := .bool true) hop20 hNS (by rw [← hops]; kernel_rfl) (by rw [← hops]; kernel_rfl) (hQp _ _) (.inl ⟨(by rfl), fun wz hz => by
                  have hW' := hz
                  first | (go_simp; done) | (obtain ⟨z0, z1, z2, z3⟩ := hF.out _ hW'; go_simp)⟩) hW' ?_
              (try simp only [Act.put, List.setIfInBounds_toArray, List.set_cons_zero, List.set_cons_succ])
              rw [show (fsH 22 20 []).setIfInBounds 20 true = (fsH 22 21 []) from by kernel_rfl]
              refine wpAnyH_take (i := 21) (v := .bool true) hop21 hNS (by rw [← hops]; kernel_rfl) (by rw [← hops]; kernel_rfl) (hQp _ _) (.inl ⟨(by rfl), fun wz hz => by
                  have hW' := hz
                  first | (go_simp; done) | (obtain ⟨z0, z1, z2, z3⟩ := hF.out _ hW'; go_simp)⟩) hW' ?_
              (try simp only [Act.put, List.setIfInBounds_toArray, List.set_cons_zero, List.set_cons_succ])
              rw [show (fsH 22 21 []).setIfInBounds 21 true = (fsH 22 22 []) from by kernel_rfl]
              refine wpAnyH_done (by rw [← hops]; kernel_rfl) ?_ _
              rw [← hQQ]
              refine NoPanic.normal ?_
              go_wp2_with fail
              go_ret
              exact ⟨rfl, kept_trans hB16.out hW'⟩
          have H16 : ∀ (s0 s2 s5 s6 s7 s8 s9 s10 s11 s12 s13 s14 s15 s16 s17 s18 s19 s20 s21 s22 s23 s24 s25 s26 s27 s28 s29 s30 s31 s32 s33 s34 s35 s36 s37 s38 s39 s40 s41 s42 s43 s44 s45 s46 s47 s48 s49 s50 s51 s52 s53 s54 s55 s56 s57 s58 s59 s60 s61 s62 s63 s64 s65 s66 s67 s68 s69 s70 s71 s72 s73 s74 s75 s76 s77 s78 s79 s80 s81 s83 s85 s86 s87 s88 s89 s90 s91 s92 s94 s95 s96 s97 s98 : Value) (v84 : Value) (B84 : Nat) (v93 : Value) (X : World), Below W0.heap.size W0 X → OldR W0.heap.size B84 X v84 (A0 ++ [(n : Int)]) → NmsAt X v93 (A0 ++ [(n : Int)]) → wpAnyH Try.prog .any ops QQ (fun Z => Below W0.heap.size W0 Z) 6 (fsH 22 16 []) ({ tmps := #[s0, .pointer (some ⟨w.heap.size, 0, none⟩), s2, .pointer (some ⟨bq, 0, none⟩), .slice aa mb ca, s5, s6, s7, s8, s9, s10, s11, s12, s13, s14, s15, s16, s17, s18, s19, s20, s21, s22, s23, s24, s25, s26, s27, s28, s29, s30, s31, s32, s33, s34, s35, s36, s37, s38, s39, s40, s41, s42, s43, s44, s45, s46, s47, s48, s49, s50, s51, s52, s53, s54, s55, s56, s57, s58, s59, s60, s61, s62, s63, s64, s65, s66, s67, s68, s69, s70, s71, s72, s73, s74, s75, s76, s77, s78, s79, s80, s81, .bool true, s83, v84, s85, s86, s87, s88, s89, s90, s91, s92, v93, s94, s95, s96, s97, s98], defers := [] }) X := by
            as_aux_lemma =>
            intro s0 s2 s5 s6 s7 s8 s9 s10 s11 s12 s13 s14 s15 s16 s17 s18 s19 s20 s21 s22 s23 s24 s25 s26 s27 s28 s29 s30 s31 s32 s33 s34 s35 s36 s37 s38 s39 s40 s41 s42 s43 s44 s45 s46 s47 s48 s49 s50 s51 s52 s53 s54 s55 s56 s57 s58 s59 s60 s61 s62 s63 s64 s65 s66 s67 s68 s69 s70 s71 s72 s73 s74 s75 s76 s77 s78 s79 s80 s81 s83 s85 s86 s87 s88 s89 s90 s91 s92 s94 s95 s96 s97 s98 v84 B84 v93 X hW' f84 f93
            refine wpAnyH_all (rs := [16]) (by rw [← hops]; kernel_rfl) (by simp) ?_
            intro ix hix
            simp only [List.mem_cons, List.not_mem_nil, or_false] at hix
            rcases hix with rfl
            · refine held_op hop16 (by rw [← hops]; kernel_rfl) (fun K' hK => ?_)
              go_simp
              refine (D94.out X _ _ f84.nms f93).mono ?_
              rintro e Y ⟨rfl, hb⟩
              dsimp only
              replace hW' := kept_trans hW' hb
              refine hK _ _ ⟨hW', ?_⟩
              clear hK K'
              (try simp only [Act.put, List.setIfInBounds_toArray, List.set_cons_zero, List.set_cons_succ])
              rw [show (fsH 22 16 []).setIfInBounds 16 true = (fsH 22 17 []) from by kernel_rfl]
              refine wpAnyH_take (i := 17) (v := .bool true) hop17 hNS (by rw [← hops]; kernel_rfl) (by rw [← hops]; kernel_rfl) (hQp _ _) (.inl ⟨(by rfl), fun wz hz => by
                  have hW' := hz
                  first | (go_simp; done) | (obtain ⟨z0, z1, z2, z3⟩ := hF.out _ hW'; go_simp)⟩) hW' ?_
              (try simp only [Act.put, List.setIfInBounds_toArray, List.set_cons_zero, List.set_cons_succ])
              rw [show (fsH 22 17 []).setIfInBounds 17 true = (fsH 22 18 []) from by kernel_rfl]
              refine wpAnyH_take (i := 18) (v := .bool true) hop18 hNS (by rw [← hops]; kernel_rfl) (by rw [← hops]; kernel_rfl) (hQp _ _) (.inl ⟨(by rfl), fun wz hz => by
                  have hW' := hz
                  first | (go_simp; done) | (obtain ⟨z0, z1, z2, z3⟩ := hF.out _ hW'; go_simp)⟩) hW' ?_
              (try simp only [Act.put, List.setIfInBounds_toArray, List.set_cons_zero, List.set_cons_succ])
              rw [show (fsH 22 18 []).setIfInBounds 18 true = (fsH 22 19 []) from by kernel_rfl]
              exact H19 _ _ _ _ _ _ _ _ _ _ _ _ _ _ _ _ _ _ _ _ _ _ _ _ _ _ _ _ _ _ _ _ _ _ _ _ _ _ _ _ _ _ _ _ _ _ _ _ _ _ _ _ _ _ _ _ _ _ _ _ _ _ _ _ _ _ _ _ _ _ _ _ _ _ _ _ _ _ _ _ _ _ _ _ _ _ _ _ _ _ _ _ _ _ _ _ hW' 
          have H15 : ∀ (s0 s2 s5 s6 s7 s8 s9 s10 s11 s12 s13 s14 s15 s16 s17 s18 s19 s20 s21 s22 s23 s24 s25 s26 s27 s28 s29 s30 s31 s32 s33 s34 s35 s36 s37 s38 s39 s40 s41 s42 s43 s44 s45 s46 s47 s48 s49 s50 s51 s52 s53 s54 s55 s56 s57 s58 s59 s60 s61 s62 s63 s64 s65 s66 s67 s68 s69 s70 s71 s72 s73 s74 s75 s76 s77 s78 s79 s80 s81 s83 s85 s86 s87 s89 s90 s91 s93 s94 s95 s96 s97 s98 : Value) (v84 : Value) (B84 : Nat) (v88 : Value) (p92 : Nat) (X : World), Below W0.heap.size W0 X → OldR W0.heap.size B84 X v84 (A0 ++ [(n : Int)]) → NewR B84 X v88 A0 → CellsAt X (some ⟨p92, 0, none⟩) [.int .i64 n] → wpAnyH Try.prog .any ops QQ (fun Z => Below W0.heap.size W0 Z) 7 (fsH 22 15 []) ({ tmps := #[s0, .pointer (some ⟨w.heap.size, 0, none⟩), s2, .pointer (some ⟨bq, 0, none⟩), .slice aa mb ca, s5, s6, s7, s8, s9, s10, s11, s12, s13, s14, s15, s16, s17, s18, s19, s20, s21, s22, s23, s24, s25, s26, s27, s28, s29, s30, s31, s32, s33, s34, s35, s36, s37, s38, s39, s40, s41, s42, s43, s44, s45, s46, s47, s48, s49, s50, s51, s52, s53, s54, s55, s56, s57, s58, s59, s60, s61, s62, s63, s64, s65, s66, s67, s68, s69, s70, s71, s72, s73, s74, s75, s76, s77, s78, s79, s80, s81, .bool true, s83, v84, s85, s86, s87, v88, s89, s90, s91, .slice (some ⟨p92, 0, none⟩) 1 1, s93, s94, s95, s96, s97, s98], defers := [] }) X := by
            as_aux_lemma =>
            intro s0 s2 s5 s6 s7 s8 s9 s10 s11 s12 s13 s14 s15 s16 s17 s18 s19 s20 s21 s22 s23 s24 s25 s26 s27 s28 s29 s30 s31 s32 s33 s34 s35 s36 s37 s38 s39 s40 s41 s42 s43 s44 s45 s46 s47 s48 s49 s50 s51 s52 s53 s54 s55 s56 s57 s58 s59 s60 s61 s62 s63 s64 s65 s66 s67 s68 s69 s70 s71 s72 s73 s74 s75 s76 s77 s78 s79 s80 s81 s83 s85 s86 s87 s89 s90 s91 s93 s94 s95 s96 s97 s98 v84 B84 v88 p92 X hW' f84 f88 f92
            refine wpAnyH_all (rs := [15]) (by rw [← hops]; kernel_rfl) (by simp) ?_
            intro ix hix
            simp only [List.mem_cons, List.not_mem_nil, or_false] at hix
            rcases hix with rfl
            · refine held_op hop15 (by rw [← hops]; kernel_rfl) (fun K' hK => ?_)
              refine app_one (.tmp 88) (.tmp 92) rfl B84 f84.2.2.1 v88 A0 (by rfl) f88 (by omega) p92 n (by rfl) f92 ?_
              intro v93 Y f93 hk ho
              replace hW' := hk _ _ f84.2.2.2 hW'
              replace f84 := ho _ _ _ f84
              refine hK _ _ ⟨hW', ?_⟩
              clear hK K'
              (try simp only [Act.put, List.setIfInBounds_toArray, List.set_cons_zero, List.set_cons_succ])
              rw [show (fsH 22 15 []).setIfInBounds 15 true = (fsH 22 16 []) from by kernel_rfl]
              exact H16 _ _ _ _ _ _ _ _ _ _ _ _ _ _ _ _ _ _ _ _ _ _ _ _ _ _ _ _ _ _ _ _ _ _ _ _ _ _ _ _ _ _ _ _ _ _ _ _ _ _ _ _ _ _ _ _ _ _ _ _ _ _ _ _ _ _ _ _ _ _ _ _ _ _ _ _ _ _ _ _ _ _ _ _ _ _ _ _ _ _ _ _ _ _ _ _ _ hW' f84 f93
          have H10_11_12_13_14 : ∀ (s0 s2 s5 s6 s7 s8 s9 s10 s11 s12 s13 s14 s15 s16 s17 s18 s19 s20 s21 s22 s23 s24 s25 s26 s27 s28 s29 s30 s31 s32 s33 s34 s35 s36 s37 s38 s39 s40 s41 s42 s43 s44 s45 s46 s47 s48 s49 s50 s51 s52 s53 s54 s55 s56 s57 s58 s59 s60 s61 s62 s63 s64 s65 s66 s67 s68 s69 s70 s71 s72 s73 s74 s75 s76 s77 s78 s79 s80 s81 s83 s86 s88 s89 s90 s91 s93 s94 s95 s96 s97 s98 : Value) (v84 : Value) (B84 : Nat) (p85 : Nat) (v87 : Value) (p92 : Nat) (X : World), Below W0.heap.size W0 X → OldR W0.heap.size B84 X v84 (A0 ++ [(n : Int)]) → NilB p85 X → NmsAt X v87 A0 → CellsAt X (some ⟨p92, 0, none⟩) [.int .i64 n] → wpAnyH Try.prog .any ops QQ (fun Z => Below W0.heap.size W0 Z) 8 (fsH 22 10 [11, 12, 13, 14]) ({ tmps := #[s0, .pointer (some ⟨w.heap.size, 0, none⟩), s2, .pointer (some ⟨bq, 0, none⟩), .slice aa mb ca, s5, s6, s7, s8, s9, s10, s11, s12, s13, s14, s15, s16, s17, s18, s19, s20, s21, s22, s23, s24, s25, s26, s27, s28, s29, s30, s31, s32, s33, s34, s35, s36, s37, s38, s39, s40, s41, s42, s43, s44, s45, s46, s47, s48, s49, s50, s51, s52, s53, s54, s55, s56, s57, s58, s59, s60, s61, s62, s63, s64, s65, s66, s67, s68, s69, s70, s71, s72, s73, s74, s75, s76, s77, s78, s79, s80, s81, .bool true, s83, v84, .slice (some ⟨p85, 0, none⟩) 0 0, s86, v87, s88, s89, s90, s91, .slice (some ⟨p92, 0, none⟩) 1 1, s93, s94, s95, s96, s97, s98], defers := [] }) X := by
            as_aux_lemma =>
            intro s0 s2 s5 s6 s7 s8 s9 s10 s11 s12 s13 s14 s15 s16 s17 s18 s19 s20 s21 s22 s23 s24 s25 s26 s27 s28 s29 s30 s31 s32 s33 s34 s35 s36 s37 s38 s39 s40 s41 s42 s43 s44 s45 s46 s47 s48 s49 s50 s51 s52 s53 s54 s55 s56 s57 s58 s59 s60 s61 s62 s63 s64 s65 s66 s67 s68 s69 s70 s71 s72 s73 s74 s75 s76 s77 s78 s79 s80 s81 s83 s86 s88 s89 s90 s91 s93 s94 s95 s96 s97 s98 v84 B84 p85 v87 p92 X hW' f84 f85 f87 f92
            refine wpAnyH_all (rs := [10]) (by rw [← hops]; kernel_rfl) (by simp) ?_
            intro ix hix
            simp only [List.mem_cons, List.not_mem_nil, or_false] at hix
            rcases hix with rfl
            · refine held_op hop10 (by rw [← hops]; kernel_rfl) (fun K' hK => ?_)
              refine app_first (.tmp 85) (.tmp 87) rfl p85 f85 (by rfl) v87 A0 (by rfl) f87 (by omega) B84 f84.2.2.1 ?_
              intro v88 Y f88 hb
              replace f84 := f84.later hb
              replace f92 := f92.later hb
              replace hW' := kept_trans hW' hb
              refine hK _ _ ⟨hW', ?_⟩
              clear hK K'
              (try simp only [Act.put, List.setIfInBounds_toArray, List.set_cons_zero, List.set_cons_succ])
              rw [show (fsH 22 10 [11, 12, 13, 14]).setIfInBounds 10 true = (fsH 22 15 []) from by kernel_rfl]
              exact H15 _ _ _ _ _ _ _ _ _ _ _ _ _ _ _ _ _ _ _ _ _ _ _ _ _ _ _ _ _ _ _ _ _ _ _ _ _ _ _ _ _ _ _ _ _ _ _ _ _ _ _ _ _ _ _ _ _ _ _ _ _ _ _ _ _ _ _ _ _ _ _ _ _ _ _ _ _ _ _ _ _ _ _ _ _ _ _ _ _ _ _ _ _ _ _ _ _ hW' f84 f88 f92
          have H14 : ∀ (s0 s2 s5 s6 s7 s8 s9 s10 s11 s12 s13 s14 s15 s16 s17 s18 s19 s20 s21 s22 s23 s24 s25 s26 s27 s28 s29 s30 s31 s32 s33 s34 s35 s36 s37 s38 s39 s40 s41 s42 s43 s44 s45 s46 s47 s48 s49 s50 s51 s52 s53 s54 s55 s56 s57 s58 s59 s60 s61 s62 s63 s64 s65 s66 s67 s68 s69 s70 s71 s72 s73 s74 s75 s76 s77 s78 s79 s80 s81 s83 s85 s86 s87 s89 s90 s92 s93 s94 s95 s96 s97 s98 : Value) (v84 : Value) (B84 : Nat) (v88 : Value) (X : World), Below W0.heap.size W0 X → OldR W0.heap.size B84 X v84 (A0 ++ [(n : Int)]) → NewR B84 X v88 A0 → wpAnyH Try.prog .any ops QQ (fun Z => Below W0.heap.size W0 Z) 8 (fsH 22 14 []) ({ tmps := #[s0, .pointer (some ⟨w.heap.size, 0, none⟩), s2, .pointer (some ⟨bq, 0, none⟩), .slice aa mb ca, s5, s6, s7, s8, s9, s10, s11, s12, s13, s14, s15, s16, s17, s18, s19, s20, s21, s22, s23, s24, s25, s26, s27, s28, s29, s30, s31, s32, s33, s34, s35, s36, s37, s38, s39, s40, s41, s42, s43, s44, s45, s46, s47, s48, s49, s50, s51, s52, s53, s54, s55, s56, s57, s58, s59, s60, s61, s62, s63, s64, s65, s66, s67, s68, s69, s70, s71, s72, s73, s74, s75, s76, s77, s78, s79, s80, s81, .bool true, s83, v84, s85, s86, s87, v88, s89, s90, .int .i64 n, s92, s93, s94, s95, s96, s97, s98], defers := [] }) X := by
            as_aux_lemma =>
            intro s0 s2 s5 s6 s7 s8 s9 s10 s11 s12 s13 s14 s15 s16 s17 s18 s19 s20 s21 s22 s23 s24 s25 s26 s27 s28 s29 s30 s31 s32 s33 s34 s35 s36 s37 s38 s39 s40 s41 s42 s43 s44 s45 s46 s47 s48 s49 s50 s51 s52 s53 s54 s55 s56 s57 s58 s59 s60 s61 s62 s63 s64 s65 s66 s67 s68 s69 s70 s71 s72 s73 s74 s75 s76 s77 s78 s79 s80 s81 s83 s85 s86 s87 s89 s90 s92 s93 s94 s95 s96 s97 s98 v84 B84 v88 X hW' f84 f88
            refine wpAnyH_all (rs := [14]) (by rw [← hops]; kernel_rfl) (by simp) ?_
            intro ix hix
            simp only [List.mem_cons, List.not_mem_nil, or_false] at hix
            rcases hix with rfl
            · refine held_op hop14 (by rw [← hops]; kernel_rfl) (fun K' hK => ?_)
              go_simp
              have f92 := cells_lit X [.int .i64 n] 3
              replace f84 := f84.later (kept_new X (.cells #[.int .i64 n] 3))
              replace f88 := f88.later (kept_new X (.cells #[.int .i64 n] 3))
              replace hW' := kept_trans hW' (kept_new X (.cells #[.int .i64 n] 3))
              refine hK _ _ ⟨hW', ?_⟩
              clear hK K'
              (try simp only [Act.put, List.setIfInBounds_toArray, List.set_cons_zero, List.set_cons_succ])
              rw [show (fsH 22 14 []).setIfInBounds 14 true = (fsH 22 15 []) from by kernel_rfl]
              exact H15 _ _ _ _ _ _ _ _ _ _ _ _ _ _ _ _ _ _ _ _ _ _ _ _ _ _ _ _ _ _ _ _ _ _ _ _ _ _ _ _ _ _ _ _ _ _ _ _ _ _ _ _ _ _ _ _ _ _ _ _ _ _ _ _ _ _ _ _ _ _ _ _ _ _ _ _ _ _ _ _ _ _ _ _ _ _ _ _ _ _ _ _ _ _ _ _ _ hW' f84 f88 f92
          have H9_11_12_13_14 : ∀ (s0 s2 s5 s6 s7 s8 s9 s10 s11 s12 s13 s14 s15 s16 s17 s18 s19 s20 s21 s22 s23 s24 s25 s26 s27 s28 s29 s30 s31 s32 s33 s34 s35 s36 s37 s38 s39 s40 s41 s42 s43 s44 s45 s46 s47 s48 s49 s50 s51 s52 s53 s54 s55 s56 s57 s58 s59 s60 s61 s62 s63 s64 s65 s66 s67 s68 s69 s70 s71 s72 s73 s74 s75 s76 s77 s78 s79 s80 s81 s83 s87 s88 s89 s90 s91 s93 s94 s95 s96 s97 s98 : Value) (v84 : Value) (B84 : Nat) (p85 : Nat) (p92 : Nat) (X : World), Below W0.heap.size W0 X → OldR W0.heap.size B84 X v84 (A0 ++ [(n : Int)]) → NilB p85 X → CellsAt X (some ⟨p92, 0, none⟩) [.int .i64 n] → wpAnyH Try.prog .any ops QQ (fun Z => Below W0.heap.size W0 Z) 9 (fsH 22 9 [11, 12, 13, 14]) ({ tmps := #[s0, .pointer (some ⟨w.heap.size, 0, none⟩), s2, .pointer (some ⟨bq, 0, none⟩), .slice aa mb ca, s5, s6, s7, s8, s9, s10, s11, s12, s13, s14, s15, s16, s17, s18, s19, s20, s21, s22, s23, s24, s25, s26, s27, s28, s29, s30, s31, s32, s33, s34, s35, s36, s37, s38, s39, s40, s41, s42, s43, s44, s45, s46, s47, s48, s49, s50, s51, s52, s53, s54, s55, s56, s57, s58, s59, s60, s61, s62, s63, s64, s65, s66, s67, s68, s69, s70, s71, s72, s73, s74, s75, s76, s77, s78, s79, s80, s81, .bool true, s83, v84, .slice (some ⟨p85, 0, none⟩) 0 0, .agg #[.slice a n c, .int .i64 win], s87, s88, s89, s90, s91, .slice (some ⟨p92, 0, none⟩) 1 1, s93, s94, s95, s96, s97, s98], defers := [] }) X := by
            as_aux_lemma =>
            intro s0 s2 s5 s6 s7 s8 s9 s10 s11 s12 s13 s14 s15 s16 s17 s18 s19 s20 s21 s22 s23 s24 s25 s26 s27 s28 s29 s30 s31 s32 s33 s34 s35 s36 s37 s38 s39 s40 s41 s42 s43 s44 s45 s46 s47 s48 s49 s50 s51 s52 s53 s54 s55 s56 s57 s58 s59 s60 s61 s62 s63 s64 s65 s66 s67 s68 s69 s70 s71 s72 s73 s74 s75 s76 s77 s78 s79 s80 s81 s83 s87 s88 s89 s90 s91 s93 s94 s95 s96 s97 s98 v84 B84 p85 p92 X hW' f84 f85 f92
            refine wpAnyH_all (rs := [9]) (by rw [← hops]; kernel_rfl) (by simp) ?_
            intro ix hix
            simp only [List.mem_cons, List.not_mem_nil, or_false] at hix
            rcases hix with rfl
            · refine held_op hop9 (by rw [← hops]; kernel_rfl) (fun K' hK => ?_)
              go_simp
              refine (D87.out X hW').mono ?_
              rintro e Y ⟨v87, rfl, f87, hb⟩
              dsimp only
              replace f84 := f84.later hb
              replace f85 := f85.later hb
              replace f92 := f92.later hb
              replace hW' := kept_trans hW' hb
              refine hK _ _ ⟨hW', ?_⟩
              clear hK K'
              (try simp only [Act.put, List.setIfInBounds_toArray, List.set_cons_zero, List.set_cons_succ])
              rw [show (fsH 22 9 [11, 12, 13, 14]).setIfInBounds 9 true = (fsH 22 10 [11, 12, 13, 14]) from by kernel_rfl]
              exact H10_11_12_13_14 _ _ _ _ _ _ _ _ _ _ _ _ _ _ _ _ _ _ _ _ _ _ _ _ _ _ _ _ _ _ _ _ _ _ _ _ _ _ _ _ _ _ _ _ _ _ _ _ _ _ _ _ _ _ _ _ _ _ _ _ _ _ _ _ _ _ _ _ _ _ _ _ _ _ _ _ _ _ _ _ _ _ _ _ _ _ _ _ _ _ _ _ _ _ _ _ _ hW' f84 f85 f87 f92
          have H7_8_9_11_12_13_14 : ∀ (s0 s2 s5 s6 s7 s8 s9 s10 s11 s12 s13 s14 s15 s16 s17 s18 s19 s20 s21 s22 s23 s24 s25 s26 s27 s28 s29 s30 s31 s32 s33 s34 s35 s36 s37 s38 s39 s40 s41 s42 s43 s44 s45 s46 s47 s48 s49 s50 s51 s52 s53 s54 s55 s56 s57 s58 s59 s60 s61 s62 s63 s64 s65 s66 s67 s68 s69 s70 s71 s72 s73 s74 s75 s76 s77 s78 s79 s80 s81 s83 s85 s86 s88 s89 s90 s91 s93 s94 s95 s96 s97 s98 : Value) (v84 : Value) (B84 : Nat) (v87 : Value) (p92 : Nat) (X : World), Below W0.heap.size W0 X → OldR W0.heap.size B84 X v84 (A0 ++ [(n : Int)]) → NmsAt X v87 A0 → CellsAt X (some ⟨p92, 0, none⟩) [.int .i64 n] → wpAnyH Try.prog .any ops QQ (fun Z => Below W0.heap.size W0 Z) 9 (fsH 22 7 [8, 9, 11, 12, 13, 14]) ({ tmps := #[s0, .pointer (some ⟨w.heap.size, 0, none⟩), s2, .pointer (some ⟨bq, 0, none⟩), .slice aa mb ca, s5, s6, s7, s8, s9, s10, s11, s12, s13, s14, s15, s16, s17, s18, s19, s20, s21, s22, s23, s24, s25, s26, s27, s28, s29, s30, s31, s32, s33, s34, s35, s36, s37, s38, s39, s40, s41, s42, s43, s44, s45, s46, s47, s48, s49, s50, s51, s52, s53, s54, s55, s56, s57, s58, s59, s60, s61, s62, s63, s64, s65, s66, s67, s68, s69, s70, s71, s72, s73, s74, s75, s76, s77, s78, s79, s80, s81, .bool true, s83, v84, s85, s86, v87, s88, s89, s90, s91, .slice (some ⟨p92, 0, none⟩) 1 1, s93, s94, s95, s96, s97, s98], defers := [] }) X := by
            as_aux_lemma =>
            intro s0 s2 s5 s6 s7 s8 s9 s10 s11 s12 s13 s14 s15 s16 s17 s18 s19 s20 s21 s22 s23 s24 s25 s26 s27 s28 s29 s30 s31 s32 s33 s34 s35 s36 s37 s38 s39 s40 s41 s42 s43 s44 s45 s46 s47 s48 s49 s50 s51 s52 s53 s54 s55 s56 s57 s58 s59 s60 s61 s62 s63 s64 s65 s66 s67 s68 s69 s70 s71 s72 s73 s74 s75 s76 s77 s78 s79 s80 s81 s83 s85 s86 s88 s89 s90 s91 s93 s94 s95 s96 s97 s98 v84 B84 v87 p92 X hW' f84 f87 f92
            refine wpAnyH_all (rs := [7]) (by rw [← hops]; kernel_rfl) (by simp) ?_
            intro ix hix
            simp only [List.mem_cons, List.not_mem_nil, or_false] at hix
            rcases hix with rfl
            · refine held_op hop7 (by rw [← hops]; kernel_rfl) (fun K' hK => ?_)
              go_simp
              have f85 : NilB X.heap.size (X.alloc (.cells #[] 3)) := World.alloc_heap_new X _
              replace f84 := f84.later (kept_new X (.cells #[] 3))
              replace f87 := f87.later (kept_new X (.cells #[] 3))
              replace f92 := f92.later (kept_new X (.cells #[] 3))
              replace hW' := kept_trans hW' (kept_new X (.cells #[] 3))
              refine hK _ _ ⟨hW', ?_⟩
              clear hK K'
              (try simp only [Act.put, List.setIfInBounds_toArray, List.set_cons_zero, List.set_cons_succ])
              rw [show (fsH 22 7 [8, 9, 11, 12, 13, 14]).setIfInBounds 7 true = (fsH 22 10 [11, 12, 13, 14]) from by kernel_rfl]
              exact H10_11_12_13_14 _ _ _ _ _ _ _ _ _ _ _ _ _ _ _ _ _ _ _ _ _ _ _ _ _ _ _ _ _ _ _ _ _ _ _ _ _ _ _ _ _ _ _ _ _ _ _ _ _ _ _ _ _ _ _ _ _ _ _ _ _ _ _ _ _ _ _ _ _ _ _ _ _ _ _ _ _ _ _ _ _ _ _ _ _ _ _ _ _ _ _ _ _ _ _ _ _ hW' f84 f85 f87 f92
          have H10_11_12_13 : ∀ (s0 s2 s5 s6 s7 s8 s9 s10 s11 s12 s13 s14 s15 s16 s17 s18 s19 s20 s21 s22 s23 s24 s25 s26 s27 s28 s29 s30 s31 s32 s33 s34 s35 s36 s37 s38 s39 s40 s41 s42 s43 s44 s45 s46 s47 s48 s49 s50 s51 s52 s53 s54 s55 s56 s57 s58 s59 s60 s61 s62 s63 s64 s65 s66 s67 s68 s69 s70 s71 s72 s73 s74 s75 s76 s77 s78 s79 s80 s81 s83 s86 s88 s89 s90 s92 s93 s94 s95 s96 s97 s98 : Value) (v84 : Value) (B84 : Nat) (p85 : Nat) (v87 : Value) (X : World), Below W0.heap.size W0 X → OldR W0.heap.size B84 X v84 (A0 ++ [(n : Int)]) → NilB p85 X → NmsAt X v87 A0 → wpAnyH Try.prog .any ops QQ (fun Z => Below W0.heap.size W0 Z) 9 (fsH 22 10 [11, 12, 13]) ({ tmps := #[s0, .pointer (some ⟨w.heap.size, 0, none⟩), s2, .pointer (some ⟨bq, 0, none⟩), .slice aa mb ca, s5, s6, s7, s8, s9, s10, s11, s12, s13, s14, s15, s16, s17, s18, s19, s20, s21, s22, s23, s24, s25, s26, s27, s28, s29, s30, s31, s32, s33, s34, s35, s36, s37, s38, s39, s40, s41, s42, s43, s44, s45, s46, s47, s48, s49, s50, s51, s52, s53, s54, s55, s56, s57, s58, s59, s60, s61, s62, s63, s64, s65, s66, s67, s68, s69, s70, s71, s72, s73, s74, s75, s76, s77, s78, s79, s80, s81, .bool true, s83, v84, .slice (some ⟨p85, 0, none⟩) 0 0, s86, v87, s88, s89, s90, .int .i64 n, s92, s93, s94, s95, s96, s97, s98], defers := [] }) X := by
            as_aux_lemma =>
            intro s0 s2 s5 s6 s7 s8 s9 s10 s11 s12 s13 s14 s15 s16 s17 s18 s19 s20 s21 s22 s23 s24 s25 s26 s27 s28 s29 s30 s31 s32 s33 s34 s35 s36 s37 s38 s39 s40 s41 s42 s43 s44 s45 s46 s47 s48 s49 s50 s51 s52 s53 s54 s55 s56 s57 s58 s59 s60 s61 s62 s63 s64 s65 s66 s67 s68 s69 s70 s71 s72 s73 s74 s75 s76 s77 s78 s79 s80 s81 s83 s86 s88 s89 s90 s92 s93 s94 s95 s96 s97 s98 v84 B84 p85 v87 X hW' f84 f85 f87
            refine wpAnyH_all (rs := [10, 14]) (by rw [← hops]; kernel_rfl) (by simp) ?_
            intro ix hix
            simp only [List.mem_cons, List.not_mem_nil, or_false] at hix
            rcases hix with rfl | rfl
            · refine held_op hop10 (by rw [← hops]; kernel_rfl) (fun K' hK => ?_)
              refine app_first (.tmp 85) (.tmp 87) rfl p85 f85 (by rfl) v87 A0 (by rfl) f87 (by omega) B84 f84.2.2.1 ?_
              intro v88 Y f88 hb
              replace f84 := f84.later hb
              replace hW' := kept_trans hW' hb
              refine hK _ _ ⟨hW', ?_⟩
              clear hK K'
              (try simp only [Act.put, List.setIfInBounds_toArray, List.set_cons_zero, List.set_cons_succ])
              rw [show (fsH 22 10 [11, 12, 13]).setIfInBounds 10 true = (fsH 22 14 []) from by kernel_rfl]
              exact H14 _ _ _ _ _ _ _ _ _ _ _ _ _ _ _ _ _ _ _ _ _ _ _ _ _ _ _ _ _ _ _ _ _ _ _ _ _ _ _ _ _ _ _ _ _ _ _ _ _ _ _ _ _ _ _ _ _ _ _ _ _ _ _ _ _ _ _ _ _ _ _ _ _ _ _ _ _ _ _ _ _ _ _ _ _ _ _ _ _ _ _ _ _ _ _ _ hW' f84 f88
            · refine held_op hop14 (by rw [← hops]; kernel_rfl) (fun K' hK => ?_)
              go_simp
              have f92 := cells_lit X [.int .i64 n] 3
              replace f84 := f84.later (kept_new X (.cells #[.int .i64 n] 3))
              replace f85 := f85.later (kept_new X (.cells #[.int .i64 n] 3))
              replace f87 := f87.later (kept_new X (.cells #[.int .i64 n] 3))
              replace hW' := kept_trans hW' (kept_new X (.cells #[.int .i64 n] 3))
              refine hK _ _ ⟨hW', ?_⟩
              clear hK K'
              (try simp only [Act.put, List.setIfInBounds_toArray, List.set_cons_zero, List.set_cons_succ])
              rw [show (fsH 22 10 [11, 12, 13]).setIfInBounds 14 true = (fsH 22 10 [11, 12, 13, 14]) from by kernel_rfl]
              exact H10_11_12_13_14 _ _ _ _ _ _ _ _ _ _ _ _ _ _ _ _ _ _ _ _ _ _ _ _ _ _ _ _ _ _ _ _ _ _ _ _ _ _ _ _ _ _ _ _ _ _ _ _ _ _ _ _ _ _ _ _ _ _ _ _ _ _ _ _ _ _ _ _ _ _ _ _ _ _ _ _ _ _ _ _ _ _ _ _ _ _ _ _ _ _ _ _ _ _ _ _ _ hW' f84 f85 f87 f92
          have H6_7_8_11_12_13_14 : ∀ (s0 s2 s5 s6 s7 s8 s9 s10 s11 s12 s13 s14 s15 s16 s17 s18 s19 s20 s21 s22 s23 s24 s25 s26 s27 s28 s29 s30 s31 s32 s33 s34 s35 s36 s37 s38 s39 s40 s41 s42 s43 s44 s45 s46 s47 s48 s49 s50 s51 s52 s53 s54 s55 s56 s57 s58 s59 s60 s61 s62 s63 s64 s65 s66 s67 s68 s69 s70 s71 s72 s73 s74 s75 s76 s77 s78 s79 s80 s81 s84 s87 s88 s89 s90 s91 s93 s94 s95 s96 s97 s98 : Value) (p85 : Nat) (p92 : Nat) (X : World), Below W0.heap.size W0 X → NilB p85 X → CellsAt X (some ⟨p92, 0, none⟩) [.int .i64 n] → wpAnyH Try.prog .any ops QQ (fun Z => Below W0.heap.size W0 Z) 10 (fsH 22 6 [7, 8, 11, 12, 13, 14]) ({ tmps := #[s0, .pointer (some ⟨w.heap.size, 0, none⟩), s2, .pointer (some ⟨bq, 0, none⟩), .slice aa mb ca, s5, s6, s7, s8, s9, s10, s11, s12, s13, s14, s15, s16, s17, s18, s19, s20, s21, s22, s23, s24, s25, s26, s27, s28, s29, s30, s31, s32, s33, s34, s35, s36, s37, s38, s39, s40, s41, s42, s43, s44, s45, s46, s47, s48, s49, s50, s51, s52, s53, s54, s55, s56, s57, s58, s59, s60, s61, s62, s63, s64, s65, s66, s67, s68, s69, s70, s71, s72, s73, s74, s75, s76, s77, s78, s79, s80, s81, .bool true, .agg #[.slice (some ⟨gq, 0, none⟩) (n + 1) cq, .int .i64 win], s84, .slice (some ⟨p85, 0, none⟩) 0 0, .agg #[.slice a n c, .int .i64 win], s87, s88, s89, s90, s91, .slice (some ⟨p92, 0, none⟩) 1 1, s93, s94, s95, s96, s97, s98], defers := [] }) X := by
            as_aux_lemma =>
            intro s0 s2 s5 s6 s7 s8 s9 s10 s11 s12 s13 s14 s15 s16 s17 s18 s19 s20 s21 s22 s23 s24 s25 s26 s27 s28 s29 s30 s31 s32 s33 s34 s35 s36 s37 s38 s39 s40 s41 s42 s43 s44 s45 s46 s47 s48 s49 s50 s51 s52 s53 s54 s55 s56 s57 s58 s59 s60 s61 s62 s63 s64 s65 s66 s67 s68 s69 s70 s71 s72 s73 s74 s75 s76 s77 s78 s79 s80 s81 s84 s87 s88 s89 s90 s91 s93 s94 s95 s96 s97 s98 p85 p92 X hW' f85 f92
            refine wpAnyH_all (rs := [6]) (by rw [← hops]; kernel_rfl) (by simp) ?_
            intro ix hix
            simp only [List.mem_cons, List.not_mem_nil, or_false] at hix
            rcases hix with rfl
            · refine held_op hop6 (by rw [← hops]; kernel_rfl) (fun K' hK => ?_)
              go_simp
              refine (D84.out X hW').mono ?_
              rintro e Y ⟨v84, rfl, f84, hb⟩
              dsimp only
              replace f85 := f85.later hb
              replace f92 := f92.later hb
              replace hW' := kept_trans hW' hb
              refine hK _ _ ⟨hW', ?_⟩
              clear hK K'
              (try simp only [Act.put, List.setIfInBounds_toArray, List.set_cons_zero, List.set_cons_succ])
              rw [show (fsH 22 6 [7, 8, 11, 12, 13, 14]).setIfInBounds 6 true = (fsH 22 9 [11, 12, 13, 14]) from by kernel_rfl]
              exact H9_11_12_13_14 _ _ _ _ _ _ _ _ _ _ _ _ _ _ _ _ _ _ _ _ _ _ _ _ _ _ _ _ _ _ _ _ _ _ _ _ _ _ _ _ _ _ _ _ _ _ _ _ _ _ _ _ _ _ _ _ _ _ _ _ _ _ _ _ _ _ _ _ _ _ _ _ _ _ _ _ _ _ _ _ _ _ _ _ _ _ _ _ _ _ _ _ _ _ _ _ hW' f84 f85 f92
          have H7_8_11_12_13_14 : ∀ (s0 s2 s5 s6 s7 s8 s9 s10 s11 s12 s13 s14 s15 s16 s17 s18 s19 s20 s21 s22 s23 s24 s25 s26 s27 s28 s29 s30 s31 s32 s33 s34 s35 s36 s37 s38 s39 s40 s41 s42 s43 s44 s45 s46 s47 s48 s49 s50 s51 s52 s53 s54 s55 s56 s57 s58 s59 s60 s61 s62 s63 s64 s65 s66 s67 s68 s69 s70 s71 s72 s73 s74 s75 s76 s77 s78 s79 s80 s81 s83 s85 s87 s88 s89 s90 s91 s93 s94 s95 s96 s97 s98 : Value) (v84 : Value) (B84 : Nat) (p92 : Nat) (X : World), Below W0.heap.size W0 X → OldR W0.heap.size B84 X v84 (A0 ++ [(n : Int)]) → CellsAt X (some ⟨p92, 0, none⟩) [.int .i64 n] → wpAnyH Try.prog .any ops QQ (fun Z => Below W0.heap.size W0 Z) 10 (fsH 22 7 [8, 11, 12, 13, 14]) ({ tmps := #[s0, .pointer (some ⟨w.heap.size, 0, none⟩), s2, .pointer (some ⟨bq, 0, none⟩), .slice aa mb ca, s5, s6, s7, s8, s9, s10, s11, s12, s13, s14, s15, s16, s17, s18, s19, s20, s21, s22, s23, s24, s25, s26, s27, s28, s29, s30, s31, s32, s33, s34, s35, s36, s37, s38, s39, s40, s41, s42, s43, s44, s45, s46, s47, s48, s49, s50, s51, s52, s53, s54, s55, s56, s57, s58, s59, s60, s61, s62, s63, s64, s65, s66, s67, s68, s69, s70, s71, s72, s73, s74, s75, s76, s77, s78, s79, s80, s81, .bool true, s83, v84, s85, .agg #[.slice a n c, .int .i64 win], s87, s88, s89, s90, s91, .slice (some ⟨p92, 0, none⟩) 1 1, s93, s94, s95, s96, s97, s98], defers := [] }) X := by
            as_aux_lemma =>
            intro s0 s2 s5 s6 s7 s8 s9 s10 s11 s12 s13 s14 s15 s16 s17 s18 s19 s20 s21 s22 s23 s24 s25 s26 s27 s28 s29 s30 s31 s32 s33 s34 s35 s36 s37 s38 s39 s40 s41 s42 s43 s44 s45 s46 s47 s48 s49 s50 s51 s52 s53 s54 s55 s56 s57 s58 s59 s60 s61 s62 s63 s64 s65 s66 s67 s68 s69 s70 s71 s72 s73 s74 s75 s76 s77 s78 s79 s80 s81 s83 s85 s87 s88 s89 s90 s91 s93 s94 s95 s96 s97 s98 v84 B84 p92 X hW' f84 f92
            refine wpAnyH_all (rs := [7, 9]) (by rw [← hops]; kernel_rfl) (by simp) ?_
            intro ix hix
            simp only [List.mem_cons, List.not_mem_nil, or_false] at hix
            rcases hix with rfl | rfl
            · refine held_op hop7 (by rw [← hops]; kernel_rfl) (fun K' hK => ?_)
              go_simp
              have f85 : NilB X.heap.size (X.alloc (.cells #[] 3)) := World.alloc_heap_new X _
              replace f84 := f84.later (kept_new X (.cells #[] 3))
              replace f92 := f92.later (kept_new X (.cells #[] 3))
              replace hW' := kept_trans hW' (kept_new X (.cells #[] 3))
              refine hK _ _ ⟨hW', ?_⟩
              clear hK K'
              (try simp only [Act.put, List.setIfInBounds_toArray, List.set_cons_zero, List.set_cons_succ])
              rw [show (fsH 22 7 [8, 11, 12, 13, 14]).setIfInBounds 7 true = (fsH 22 9 [11, 12, 13, 14]) from by kernel_rfl]
              exact H9_11_12_13_14 _ _ _ _ _ _ _ _ _ _ _ _ _ _ _ _ _ _ _ _ _ _ _ _ _ _ _ _ _ _ _ _ _ _ _ _ _ _ _ _ _ _ _ _ _ _ _ _ _ _ _ _ _ _ _ _ _ _ _ _ _ _ _ _ _ _ _ _ _ _ _ _ _ _ _ _ _ _ _ _ _ _ _ _ _ _ _ _ _ _ _ _ _ _ _ _ hW' f84 f85 f92
            · refine held_op hop9 (by rw [← hops]; kernel_rfl) (fun K' hK => ?_)
              go_simp
              refine (D87.out X hW').mono ?_
              rintro e Y ⟨v87, rfl, f87, hb⟩
              dsimp only
              replace f84 := f84.later hb
              replace f92 := f92.later hb
              replace hW' := kept_trans hW' hb
              refine hK _ _ ⟨hW', ?_⟩
              clear hK K'
              (try simp only [Act.put, List.setIfInBounds_toArray, List.set_cons_zero, List.set_cons_succ])
              rw [show (fsH 22 7 [8, 11, 12, 13, 14]).setIfInBounds 9 true = (fsH 22 7 [8, 9, 11, 12, 13, 14]) from by kernel_rfl]
              exact H7_8_9_11_12_13_14 _ _ _ _ _ _ _ _ _ _ _ _ _ _ _ _ _ _ _ _ _ _ _ _ _ _ _ _ _ _ _ _ _ _ _ _ _ _ _ _ _ _ _ _ _ _ _ _ _ _ _ _ _ _ _ _ _ _ _ _ _ _ _ _ _ _ _ _ _ _ _ _ _ _ _ _ _ _ _ _ _ _ _ _ _ _ _ _ _ _ _ _ _ _ _ _ _ hW' f84 f87 f92
          have H9_11_12_13 : ∀ (s0 s2 s5 s6 s7 s8 s9 s10 s11 s12 s13 s14 s15 s16 s17 s18 s19 s20 s21 s22 s23 s24 s25 s26 s27 s28 s29 s30 s31 s32 s33 s34 s35 s36 s37 s38 s39 s40 s41 s42 s43 s44 s45 s46 s47 s48 s49 s50 s51 s52 s53 s54 s55 s56 s57 s58 s59 s60 s61 s62 s63 s64 s65 s66 s67 s68 s69 s70 s71 s72 s73 s74 s75 s76 s77 s78 s79 s80 s81 s83 s87 s88 s89 s90 s92 s93 s94 s95 s96 s97 s98 : Value) (v84 : Value) (B84 : Nat) (p85 : Nat) (X : World), Below W0.heap.size W0 X → OldR W0.heap.size B84 X v84 (A0 ++ [(n : Int)]) → NilB p85 X → wpAnyH Try.prog .any ops QQ (fun Z => Below W0.heap.size W0 Z) 10 (fsH 22 9 [11, 12, 13]) ({ tmps := #[s0, .pointer (some ⟨w.heap.size, 0, none⟩), s2, .pointer (some ⟨bq, 0, none⟩), .slice aa mb ca, s5, s6, s7, s8, s9, s10, s11, s12, s13, s14, s15, s16, s17, s18, s19, s20, s21, s22, s23, s24, s25, s26, s27, s28, s29, s30, s31, s32, s33, s34, s35, s36, s37, s38, s39, s40, s41, s42, s43, s44, s45, s46, s47, s48, s49, s50, s51, s52, s53, s54, s55, s56, s57, s58, s59, s60, s61, s62, s63, s64, s65, s66, s67, s68, s69, s70, s71, s72, s73, s74, s75, s76, s77, s78, s79, s80, s81, .bool true, s83, v84, .slice (some ⟨p85, 0, none⟩) 0 0, .agg #[.slice a n c, .int .i64 win], s87, s88, s89, s90, .int .i64 n, s92, s93, s94, s95, s96, s97, s98], defers := [] }) X := by
            as_aux_lemma =>
            intro s0 s2 s5 s6 s7 s8 s9 s10 s11 s12 s13 s14 s15 s16 s17 s18 s19 s20 s21 s22 s23 s24 s25 s26 s27 s28 s29 s30 s31 s32 s33 s34 s35 s36 s37 s38 s39 s40 s41 s42 s43 s44 s45 s46 s47 s48 s49 s50 s51 s52 s53 s54 s55 s56 s57 s58 s59 s60 s61 s62 s63 s64 s65 s66 s67 s68 s69 s70 s71 s72 s73 s74 s75 s76 s77 s78 s79 s80 s81 s83 s87 s88 s89 s90 s92 s93 s94 s95 s96 s97 s98 v84 B84 p85 X hW' f84 f85
            refine wpAnyH_all (rs := [9, 14]) (by rw [← hops]; kernel_rfl) (by simp) ?_
            intro ix hix
            simp only [List.mem_cons, List.not_mem_nil, or_false] at hix
            rcases hix with rfl | rfl
            · refine held_op hop9 (by rw [← hops]; kernel_rfl) (fun K' hK => ?_)
              go_simp
              refine (D87.out X hW').mono ?_
              rintro e Y ⟨v87, rfl, f87, hb⟩
              dsimp only
              replace f84 := f84.later hb
              replace f85 := f85.later hb
              replace hW' := kept_trans hW' hb
              refine hK _ _ ⟨hW', ?_⟩
              clear hK K'
              (try simp only [Act.put, List.setIfInBounds_toArray, List.set_cons_zero, List.set_cons_succ])
              rw [show (fsH 22 9 [11, 12, 13]).setIfInBounds 9 true = (fsH 22 10 [11, 12, 13]) from by kernel_rfl]
              exact H10_11_12_13 _ _ _ _ _ _ _ _ _ _ _ _ _ _ _ _ _ _ _ _ _ _ _ _ _ _ _ _ _ _ _ _ _ _ _ _ _ _ _ _ _ _ _ _ _ _ _ _ _ _ _ _ _ _ _ _ _ _ _ _ _ _ _ _ _ _ _ _ _ _ _ _ _ _ _ _ _ _ _ _ _ _ _ _ _ _ _ _ _ _ _ _ _ _ _ _ hW' f84 f85 f87
            · refine held_op hop14 (by rw [← hops]; kernel_rfl) (fun K' hK => ?_)
              go_simp
              have f92 := cells_lit X [.int .i64 n] 3
              replace f84 := f84.later (kept_new X (.cells #[.int .i64 n] 3))
              replace f85 := f85.later (kept_new X (.cells #[.int .i64 n] 3))
              replace hW' := kept_trans hW' (kept_new X (.cells #[.int .i64 n] 3))
              refine hK _ _ ⟨hW', ?_⟩
              clear hK K'
              (try simp only [Act.put, List.setIfInBounds_toArray, List.set_cons_zero, List.set_cons_succ])
              rw [show (fsH 22 9 [11, 12, 13]).setIfInBounds 14 true = (fsH 22 9 [11, 12, 13, 14]) from by kernel_rfl]
              exact H9_11_12_13_14 _ _ _ _ _ _ _ _ _ _ _ _ _ _ _ _ _ _ _ _ _ _ _ _ _ _ _ _ _ _ _ _ _ _ _ _ _ _ _ _ _ _ _ _ _ _ _ _ _ _ _ _ _ _ _ _ _ _ _ _ _ _ _ _ _ _ _ _ _ _ _ _ _ _ _ _ _ _ _ _ _ _ _ _ _ _ _ _ _ _ _ _ _ _ _ _ hW' f84 f85 f92
          have H7_8_9_11_12_13 : ∀ (s0 s2 s5 s6 s7 s8 s9 s10 s11 s12 s13 s14 s15 s16 s17 s18 s19 s20 s21 s22 s23 s24 s25 s26 s27 s28 s29 s30 s31 s32 s33 s34 s35 s36 s37 s38 s39 s40 s41 s42 s43 s44 s45 s46 s47 s48 s49 s50 s51 s52 s53 s54 s55 s56 s57 s58 s59 s60 s61 s62 s63 s64 s65 s66 s67 s68 s69 s70 s71 s72 s73 s74 s75 s76 s77 s78 s79 s80 s81 s83 s85 s86 s88 s89 s90 s92 s93 s94 s95 s96 s97 s98 : Value) (v84 : Value) (B84 : Nat) (v87 : Value) (X : World), Below W0.heap.size W0 X → OldR W0.heap.size B84 X v84 (A0 ++ [(n : Int)]) → NmsAt X v87 A0 → wpAnyH Try.prog .any ops QQ (fun Z => Below W0.heap.size W0 Z) 10 (fsH 22 7 [8, 9, 11, 12, 13]) ({ tmps := #[s0, .pointer (some ⟨w.heap.size, 0, none⟩), s2, .pointer (some ⟨bq, 0, none⟩), .slice aa mb ca, s5, s6, s7, s8, s9, s10, s11, s12, s13, s14, s15, s16, s17, s18, s19, s20, s21, s22, s23, s24, s25, s26, s27, s28, s29, s30, s31, s32, s33, s34, s35, s36, s37, s38, s39, s40, s41, s42, s43, s44, s45, s46, s47, s48, s49, s50, s51, s52, s53, s54, s55, s56, s57, s58, s59, s60, s61, s62, s63, s64, s65, s66, s67, s68, s69, s70, s71, s72, s73, s74, s75, s76, s77, s78, s79, s80, s81, .bool true, s83, v84, s85, s86, v87, s88, s89, s90, .int .i64 n, s92, s93, s94, s95, s96, s97, s98], defers := [] }) X := by
            as_aux_lemma =>
            intro s0 s2 s5 s6 s7 s8 s9 s10 s11 s12 s13 s14 s15 s16 s17 s18 s19 s20 s21 s22 s23 s24 s25 s26 s27 s28 s29 s30 s31 s32 s33 s34 s35 s36 s37 s38 s39 s40 s41 s42 s43 s44 s45 s46 s47 s48 s49 s50 s51 s52 s53 s54 s55 s56 s57 s58 s59 s60 s61 s62 s63 s64 s65 s66 s67 s68 s69 s70 s71 s72 s73 s74 s75 s76 s77 s78 s79 s80 s81 s83 s85 s86 s88 s89 s90 s92 s93 s94 s95 s96 s97 s98 v84 B84 v87 X hW' f84 f87
            refine wpAnyH_all (rs := [7, 14]) (by rw [← hops]; kernel_rfl) (by simp) ?_
            intro ix hix
            simp only [List.mem_cons, List.not_mem_nil, or_false] at hix
            rcases hix with rfl | rfl
            · refine held_op hop7 (by rw [← hops]; kernel_rfl) (fun K' hK => ?_)
              go_simp
              have f85 : NilB X.heap.size (X.alloc (.cells #[] 3)) := World.alloc_heap_new X _
              replace f84 := f84.later (kept_new X (.cells #[] 3))
              replace f87 := f87.later (kept_new X (.cells #[] 3))
              replace hW' := kept_trans hW' (kept_new X (.cells #[] 3))
              refine hK _ _ ⟨hW', ?_⟩
              clear hK K'
              (try simp only [Act.put, List.setIfInBounds_toArray, List.set_cons_zero, List.set_cons_succ])
              rw [show (fsH 22 7 [8, 9, 11, 12, 13]).setIfInBounds 7 true = (fsH 22 10 [11, 12, 13]) from by kernel_rfl]
              exact H10_11_12_13 _ _ _ _ _ _ _ _ _ _ _ _ _ _ _ _ _ _ _ _ _ _ _ _ _ _ _ _ _ _ _ _ _ _ _ _ _ _ _ _ _ _ _ _ _ _ _ _ _ _ _ _ _ _ _ _ _ _ _ _ _ _ _ _ _ _ _ _ _ _ _ _ _ _ _ _ _ _ _ _ _ _ _ _ _ _ _ _ _ _ _ _ _ _ _ _ hW' f84 f85 f87
            · refine held_op hop14 (by rw [← hops]; kernel_rfl) (fun K' hK => ?_)
              go_simp
              have f92 := cells_lit X [.int .i64 n] 3
              replace f84 := f84.later (kept_new X (.cells #[.int .i64 n] 3))
              replace f87 := f87.later (kept_new X (.cells #[.int .i64 n] 3))
              replace hW' := kept_trans hW' (kept_new X (.cells #[.int .i64 n] 3))
              refine hK _ _ ⟨hW', ?_⟩
              clear hK K'
              (try simp only [Act.put, List.setIfInBounds_toArray, List.set_cons_zero, List.set_cons_succ])
              rw [show (fsH 22 7 [8, 9, 11, 12, 13]).setIfInBounds 14 true = (fsH 22 7 [8, 9, 11, 12, 13, 14]) from by kernel_rfl]
              exact H7_8_9_11_12_13_14 _ _ _ _ _ _ _ _ _ _ _ _ _ _ _ _ _ _ _ _ _ _ _ _ _ _ _ _ _ _ _ _ _ _ _ _ _ _ _ _ _ _ _ _ _ _ _ _ _ _ _ _ _ _ _ _ _ _ _ _ _ _ _ _ _ _ _ _ _ _ _ _ _ _ _ _ _ _ _ _ _ _ _ _ _ _ _ _ _ _ _ _ _ _ _ _ _ hW' f84 f87 f92
          have H6_8_11_12_13_14 : ∀ (s0 s2 s5 s6 s7 s8 s9 s10 s11 s12 s13 s14 s15 s16 s17 s18 s19 s20 s21 s22 s23 s24 s25 s26 s27 s28 s29 s30 s31 s32 s33 s34 s35 s36 s37 s38 s39 s40 s41 s42 s43 s44 s45 s46 s47 s48 s49 s50 s51 s52 s53 s54 s55 s56 s57 s58 s59 s60 s61 s62 s63 s64 s65 s66 s67 s68 s69 s70 s71 s72 s73 s74 s75 s76 s77 s78 s79 s80 s81 s84 s85 s87 s88 s89 s90 s91 s93 s94 s95 s96 s97 s98 : Value) (p92 : Nat) (X : World), Below W0.heap.size W0 X → CellsAt X (some ⟨p92, 0, none⟩) [.int .i64 n] → wpAnyH Try.prog .any ops QQ (fun Z => Below W0.heap.size W0 Z) 11 (fsH 22 6 [8, 11, 12, 13, 14]) ({ tmps := #[s0, .pointer (some ⟨w.heap.size, 0, none⟩), s2, .pointer (some ⟨bq, 0, none⟩), .slice aa mb ca, s5, s6, s7, s8, s9, s10, s11, s12, s13, s14, s15, s16, s17, s18, s19, s20, s21, s22, s23, s24, s25, s26, s27, s28, s29, s30, s31, s32, s33, s34, s35, s36, s37, s38, s39, s40, s41, s42, s43, s44, s45, s46, s47, s48, s49, s50, s51, s52, s53, s54, s55, s56, s57, s58, s59, s60, s61, s62, s63, s64, s65, s66, s67, s68, s69, s70, s71, s72, s73, s74, s75, s76, s77, s78, s79, s80, s81, .bool true, .agg #[.slice (some ⟨gq, 0, none⟩) (n + 1) cq, .int .i64 win], s84, s85, .agg #[.slice a n c, .int .i64 win], s87, s88, s89, s90, s91, .slice (some ⟨p92, 0, none⟩) 1 1, s93, s94, s95, s96, s97, s98], defers := [] }) X := by
            as_aux_lemma =>
            intro s0 s2 s5 s6 s7 s8 s9 s10 s11 s12 s13 s14 s15 s16 s17 s18 s19 s20 s21 s22 s23 s24 s25 s26 s27 s28 s29 s30 s31 s32 s33 s34 s35 s36 s37 s38 s39 s40 s41 s42 s43 s44 s45 s46 s47 s48 s49 s50 s51 s52 s53 s54 s55 s56 s57 s58 s59 s60 s61 s62 s63 s64 s65 s66 s67 s68 s69 s70 s71 s72 s73 s74 s75 s76 s77 s78 s79 s80 s81 s84 s85 s87 s88 s89 s90 s91 s93 s94 s95 s96 s97 s98 p92 X hW' f92
            refine wpAnyH_all (rs := [6, 7]) (by rw [← hops]; kernel_rfl) (by simp) ?_
            intro ix hix
            simp only [List.mem_cons, List.not_mem_nil, or_false] at hix
            rcases hix with rfl | rfl
            · refine held_op hop6 (by rw [← hops]; kernel_rfl) (fun K' hK => ?_)
              go_simp
              refine (D84.out X hW').mono ?_
              rintro e Y ⟨v84, rfl, f84, hb⟩
              dsimp only
              replace f92 := f92.later hb
              replace hW' := kept_trans hW' hb
              refine hK _ _ ⟨hW', ?_⟩
              clear hK K'
              (try simp only [Act.put, List.setIfInBounds_toArray, List.set_cons_zero, List.set_cons_succ])
              rw [show (fsH 22 6 [8, 11, 12, 13, 14]).setIfInBounds 6 true = (fsH 22 7 [8, 11, 12, 13, 14]) from by kernel_rfl]
              exact H7_8_11_12_13_14 _ _ _ _ _ _ _ _ _ _ _ _ _ _ _ _ _ _ _ _ _ _ _ _ _ _ _ _ _ _ _ _ _ _ _ _ _ _ _ _ _ _ _ _ _ _ _ _ _ _ _ _ _ _ _ _ _ _ _ _ _ _ _ _ _ _ _ _ _ _ _ _ _ _ _ _ _ _ _ _ _ _ _ _ _ _ _ _ _ _ _ _ _ _ _ _ hW' f84 f92
            · refine held_op hop7 (by rw [← hops]; kernel_rfl) (fun K' hK => ?_)
              go_simp
              have f85 : NilB X.heap.size (X.alloc (.cells #[] 3)) := World.alloc_heap_new X _
              replace f92 := f92.later (kept_new X (.cells #[] 3))
              replace hW' := kept_trans hW' (kept_new X (.cells #[] 3))
              refine hK _ _ ⟨hW', ?_⟩
              clear hK K'
              (try simp only [Act.put, List.setIfInBounds_toArray, List.set_cons_zero, List.set_cons_succ])
              rw [show (fsH 22 6 [8, 11, 12, 13, 14]).setIfInBounds 7 true = (fsH 22 6 [7, 8, 11, 12, 13, 14]) from by kernel_rfl]
              exact H6_7_8_11_12_13_14 _ _ _ _ _ _ _ _ _ _ _ _ _ _ _ _ _ _ _ _ _ _ _ _ _ _ _ _ _ _ _ _ _ _ _ _ _ _ _ _ _ _ _ _ _ _ _ _ _ _ _ _ _ _ _ _ _ _ _ _ _ _ _ _ _ _ _ _ _ _ _ _ _ _ _ _ _ _ _ _ _ _ _ _ _ _ _ _ _ _ _ _ _ _ hW' f85 f92
          have H6_7_8_11_12_13 : ∀ (s0 s2 s5 s6 s7 s8 s9 s10 s11 s12 s13 s14 s15 s16 s17 s18 s19 s20 s21 s22 s23 s24 s25 s26 s27 s28 s29 s30 s31 s32 s33 s34 s35 s36 s37 s38 s39 s40 s41 s42 s43 s44 s45 s46 s47 s48 s49 s50 s51 s52 s53 s54 s55 s56 s57 s58 s59 s60 s61 s62 s63 s64 s65 s66 s67 s68 s69 s70 s71 s72 s73 s74 s75 s76 s77 s78 s79 s80 s81 s84 s87 s88 s89 s90 s92 s93 s94 s95 s96 s97 s98 : Value) (p85 : Nat) (X : World), Below W0.heap.size W0 X → NilB p85 X → wpAnyH Try.prog .any ops QQ (fun Z => Below W0.heap.size W0 Z) 11 (fsH 22 6 [7, 8, 11, 12, 13]) ({ tmps := #[s0, .pointer (some ⟨w.heap.size, 0, none⟩), s2, .pointer (some ⟨bq, 0, none⟩), .slice aa mb ca, s5, s6, s7, s8, s9, s10, s11, s12, s13, s14, s15, s16, s17, s18, s19, s20, s21, s22, s23, s24, s25, s26, s27, s28, s29, s30, s31, s32, s33, s34, s35, s36, s37, s38, s39, s40, s41, s42, s43, s44, s45, s46, s47, s48, s49, s50, s51, s52, s53, s54, s55, s56, s57, s58, s59, s60, s61, s62, s63, s64, s65, s66, s67, s68, s69, s70, s71, s72, s73, s74, s75, s76, s77, s78, s79, s80, s81, .bool true, .agg #[.slice (some ⟨gq, 0, none⟩) (n + 1) cq, .int .i64 win], s84, .slice (some ⟨p85, 0, none⟩) 0 0, .agg #[.slice a n c, .int .i64 win], s87, s88, s89, s90, .int .i64 n, s92, s93, s94, s95, s96, s97, s98], defers := [] }) X := by
            as_aux_lemma =>
            intro s0 s2 s5 s6 s7 s8 s9 s10 s11 s12 s13 s14 s15 s16 s17 s18 s19 s20 s21 s22 s23 s24 s25 s26 s27 s28 s29 s30 s31 s32 s33 s34 s35 s36 s37 s38 s39 s40 s41 s42 s43 s44 s45 s46 s47 s48 s49 s50 s51 s52 s53 s54 s55 s56 s57 s58 s59 s60 s61 s62 s63 s64 s65 s66 s67 s68 s69 s70 s71 s72 s73 s74 s75 s76 s77 s78 s79 s80 s81 s84 s87 s88 s89 s90 s92 s93 s94 s95 s96 s97 s98 p85 X hW' f85
            refine wpAnyH_all (rs := [6, 14]) (by rw [← hops]; kernel_rfl) (by simp) ?_
            intro ix hix
            simp only [List.mem_cons, List.not_mem_nil, or_false] at hix
            rcases hix with rfl | rfl
            · refine held_op hop6 (by rw [← hops]; kernel_rfl) (fun K' hK => ?_)
              go_simp
              refine (D84.out X hW').mono ?_
              rintro e Y ⟨v84, rfl, f84, hb⟩
              dsimp only
              replace f85 := f85.later hb
              replace hW' := kept_trans hW' hb
              refine hK _ _ ⟨hW', ?_⟩
              clear hK K'
              (try simp only [Act.put, List.setIfInBounds_toArray, List.set_cons_zero, List.set_cons_succ])
              rw [show (fsH 22 6 [7, 8, 11, 12, 13]).setIfInBounds 6 true = (fsH 22 9 [11, 12, 13]) from by kernel_rfl]
              exact H9_11_12_13 _ _ _ _ _ _ _ _ _ _ _ _ _ _ _ _ _ _ _ _ _ _ _ _ _ _ _ _ _ _ _ _ _ _ _ _ _ _ _ _ _ _ _ _ _ _ _ _ _ _ _ _ _ _ _ _ _ _ _ _ _ _ _ _ _ _ _ _ _ _ _ _ _ _ _ _ _ _ _ _ _ _ _ _ _ _ _ _ _ _ _ _ _ _ _ hW' f84 f85
            · refine held_op hop14 (by rw [← hops]; kernel_rfl) (fun K' hK => ?_)
              go_simp
              have f92 := cells_lit X [.int .i64 n] 3
              replace f85 := f85.later (kept_new X (.cells #[.int .i64 n] 3))
              replace hW' := kept_trans hW' (kept_new X (.cells #[.int .i64 n] 3))
              refine hK _ _ ⟨hW', ?_⟩
              clear hK K'
              (try simp only [Act.put, List.setIfInBounds_toArray, List.set_cons_zero, List.set_cons_succ])
              rw [show (fsH 22 6 [7, 8, 11, 12, 13]).setIfInBounds 14 true = (fsH 22 6 [7, 8, 11, 12, 13, 14]) from by kernel_rfl]
              exact H6_7_8_11_12_13_14 _ _ _ _ _ _ _ _ _ _ _ _ _ _ _ _ _ _ _ _ _ _ _ _ _ _ _ _ _ _ _ _ _ _ _ _ _ _ _ _ _ _ _ _ _ _ _ _ _ _ _ _ _ _ _ _ _ _ _ _ _ _ _ _ _ _ _ _ _ _ _ _ _ _ _ _ _ _ _ _ _ _ _ _ _ _ _ _ _ _ _ _ _ _ hW' f85 f92
          have H7_8_11_12_13 : ∀ (s0 s2 s5 s6 s7 s8 s9 s10 s11 s12 s13 s14 s15 s16 s17 s18 s19 s20 s21 s22 s23 s24 s25 s26 s27 s28 s29 s30 s31 s32 s33 s34 s35 s36 s37 s38 s39 s40 s41 s42 s43 s44 s45 s46 s47 s48 s49 s50 s51 s52 s53 s54 s55 s56 s57 s58 s59 s60 s61 s62 s63 s64 s65 s66 s67 s68 s69 s70 s71 s72 s73 s74 s75 s76 s77 s78 s79 s80 s81 s83 s85 s87 s88 s89 s90 s92 s93 s94 s95 s96 s97 s98 : Value) (v84 : Value) (B84 : Nat) (X : World), Below W0.heap.size W0 X → OldR W0.heap.size B84 X v84 (A0 ++ [(n : Int)]) → wpAnyH Try.prog .any ops QQ (fun Z => Below W0.heap.size W0 Z) 11 (fsH 22 7 [8, 11, 12, 13]) ({ tmps := #[s0, .pointer (some ⟨w.heap.size, 0, none⟩), s2, .pointer (some ⟨bq, 0, none⟩), .slice aa mb ca, s5, s6, s7, s8, s9, s10, s11, s12, s13, s14, s15, s16, s17, s18, s19, s20, s21, s22, s23, s24, s25, s26, s27, s28, s29, s30, s31, s32, s33, s34, s35, s36, s37, s38, s39, s40, s41, s42, s43, s44, s45, s46, s47, s48, s49, s50, s51, s52, s53, s54, s55, s56, s57, s58, s59, s60, s61, s62, s63, s64, s65, s66, s67, s68, s69, s70, s71, s72, s73, s74, s75, s76, s77, s78, s79, s80, s81, .bool true, s83, v84, s85, .agg #[.slice a n c, .int .i64 win], s87, s88, s89, s90, .int .i64 n, s92, s93, s94, s95, s96, s97, s98], defers := [] }) X := by
            as_aux_lemma =>
            intro s0 s2 s5 s6 s7 s8 s9 s10 s11 s12 s13 s14 s15 s16 s17 s18 s19 s20 s21 s22 s23 s24 s25 s26 s27 s28 s29 s30 s31 s32 s33 s34 s35 s36 s37 s38 s39 s40 s41 s42 s43 s44 s45 s46 s47 s48 s49 s50 s51 s52 s53 s54 s55 s56 s57 s58 s59 s60 s61 s62 s63 s64 s65 s66 s67 s68 s69 s70 s71 s72 s73 s74 s75 s76 s77 s78 s79 s80 s81 s83 s85 s87 s88 s89 s90 s92 s93 s94 s95 s96 s97 s98 v84 B84 X hW' f84
            refine wpAnyH_all (rs := [7, 9, 14]) (by rw [← hops]; kernel_rfl) (by simp) ?_
            intro ix hix
            simp only [List.mem_cons, List.not_mem_nil, or_false] at hix
            rcases hix with rfl | rfl | rfl
            · refine held_op hop7 (by rw [← hops]; kernel_rfl) (fun K' hK => ?_)
              go_simp
              have f85 : NilB X.heap.size (X.alloc (.cells #[] 3)) := World.alloc_heap_new X _
              replace f84 := f84.later (kept_new X (.cells #[] 3))
              replace hW' := kept_trans hW' (kept_new X (.cells #[] 3))
              refine hK _ _ ⟨hW', ?_⟩
              clear hK K'
              (try simp only [Act.put, List.setIfInBounds_toArray, List.set_cons_zero, List.set_cons_succ])
              rw [show (fsH 22 7 [8, 11, 12, 13]).setIfInBounds 7 true = (fsH 22 9 [11, 12, 13]) from by kernel_rfl]
              exact H9_11_12_13 _ _ _ _ _ _ _ _ _ _ _ _ _ _ _ _ _ _ _ _ _ _ _ _ _ _ _ _ _ _ _ _ _ _ _ _ _ _ _ _ _ _ _ _ _ _ _ _ _ _ _ _ _ _ _ _ _ _ _ _ _ _ _ _ _ _ _ _ _ _ _ _ _ _ _ _ _ _ _ _ _ _ _ _ _ _ _ _ _ _ _ _ _ _ _ hW' f84 f85
            · refine held_op hop9 (by rw [← hops]; kernel_rfl) (fun K' hK => ?_)
              go_simp
              refine (D87.out X hW').mono ?_
              rintro e Y ⟨v87, rfl, f87, hb⟩
              dsimp only
              replace f84 := f84.later hb
              replace hW' := kept_trans hW' hb
              refine hK _ _ ⟨hW', ?_⟩
              clear hK K'
              (try simp only [Act.put, List.setIfInBounds_toArray, List.set_cons_zero, List.set_cons_succ])
              rw [show (fsH 22 7 [8, 11, 12, 13]).setIfInBounds 9 true = (fsH 22 7 [8, 9, 11, 12, 13]) from by kernel_rfl]
              exact H7_8_9_11_12_13 _ _ _ _ _ _ _ _ _ _ _ _ _ _ _ _ _ _ _ _ _ _ _ _ _ _ _ _ _ _ _ _ _ _ _ _ _ _ _ _ _ _ _ _ _ _ _ _ _ _ _ _ _ _ _ _ _ _ _ _ _ _ _ _ _ _ _ _ _ _ _ _ _ _ _ _ _ _ _ _ _ _ _ _ _ _ _ _ _ _ _ _ _ _ _ _ hW' f84 f87
            · refine held_op hop14 (by rw [← hops]; kernel_rfl) (fun K' hK => ?_)
              go_simp
              have f92 := cells_lit X [.int .i64 n] 3
              replace f84 := f84.later (kept_new X (.cells #[.int .i64 n] 3))
              replace hW' := kept_trans hW' (kept_new X (.cells #[.int .i64 n] 3))
              refine hK _ _ ⟨hW', ?_⟩
              clear hK K'
              (try simp only [Act.put, List.setIfInBounds_toArray, List.set_cons_zero, List.set_cons_succ])
              rw [show (fsH 22 7 [8, 11, 12, 13]).setIfInBounds 14 true = (fsH 22 7 [8, 11, 12, 13, 14]) from by kernel_rfl]
              exact H7_8_11_12_13_14 _ _ _ _ _ _ _ _ _ _ _ _ _ _ _ _ _ _ _ _ _ _ _ _ _ _ _ _ _ _ _ _ _ _ _ _ _ _ _ _ _ _ _ _ _ _ _ _ _ _ _ _ _ _ _ _ _ _ _ _ _ _ _ _ _ _ _ _ _ _ _ _ _ _ _ _ _ _ _ _ _ _ _ _ _ _ _ _ _ _ _ _ _ _ _ _ hW' f84 f92
          have H6_8_11_12_13 : ∀ (s0 s2 s5 s6 s7 s8 s9 s10 s11 s12 s13 s14 s15 s16 s17 s18 s19 s20 s21 s22 s23 s24 s25 s26 s27 s28 s29 s30 s31 s32 s33 s34 s35 s36 s37 s38 s39 s40 s41 s42 s43 s44 s45 s46 s47 s48 s49 s50 s51 s52 s53 s54 s55 s56 s57 s58 s59 s60 s61 s62 s63 s64 s65 s66 s67 s68 s69 s70 s71 s72 s73 s74 s75 s76 s77 s78 s79 s80 s81 s84 s85 s87 s88 s89 s90 s92 s93 s94 s95 s96 s97 s98 : Value) (X : World), Below W0.heap.size W0 X → wpAnyH Try.prog .any ops QQ (fun Z => Below W0.heap.size W0 Z) 12 (fsH 22 6 [8, 11, 12, 13]) ({ tmps := #[s0, .pointer (some ⟨w.heap.size, 0, none⟩), s2, .pointer (some ⟨bq, 0, none⟩), .slice aa mb ca, s5, s6, s7, s8, s9, s10, s11, s12, s13, s14, s15, s16, s17, s18, s19, s20, s21, s22, s23, s24, s25, s26, s27, s28, s29, s30, s31, s32, s33, s34, s35, s36, s37, s38, s39, s40, s41, s42, s43, s44, s45, s46, s47, s48, s49, s50, s51, s52, s53, s54, s55, s56, s57, s58, s59, s60, s61, s62, s63, s64, s65, s66, s67, s68, s69, s70, s71, s72, s73, s74, s75, s76, s77, s78, s79, s80, s81, .bool true, .agg #[.slice (some ⟨gq, 0, none⟩) (n + 1) cq, .int .i64 win], s84, s85, .agg #[.slice a n c, .int .i64 win], s87, s88, s89, s90, .int .i64 n, s92, s93, s94, s95, s96, s97, s98], defers := [] }) X := by
            as_aux_lemma =>
            intro s0 s2 s5 s6 s7 s8 s9 s10 s11 s12 s13 s14 s15 s16 s17 s18 s19 s20 s21 s22 s23 s24 s25 s26 s27 s28 s29 s30 s31 s32 s33 s34 s35 s36 s37 s38 s39 s40 s41 s42 s43 s44 s45 s46 s47 s48 s49 s50 s51 s52 s53 s54 s55 s56 s57 s58 s59 s60 s61 s62 s63 s64 s65 s66 s67 s68 s69 s70 s71 s72 s73 s74 s75 s76 s77 s78 s79 s80 s81 s84 s85 s87 s88 s89 s90 s92 s93 s94 s95 s96 s97 s98 X hW'
            refine wpAnyH_all (rs := [6, 7, 14]) (by rw [← hops]; kernel_rfl) (by simp) ?_
            intro ix hix
            simp only [List.mem_cons, List.not_mem_nil, or_false] at hix
            rcases hix with rfl | rfl | rfl
            · refine held_op hop6 (by rw [← hops]; kernel_rfl) (fun K' hK => ?_)
              go_simp
              refine (D84.out X hW').mono ?_
              rintro e Y ⟨v84, rfl, f84, hb⟩
              dsimp only
              replace hW' := kept_trans hW' hb
              refine hK _ _ ⟨hW', ?_⟩
              clear hK K'
              (try simp only [Act.put, List.setIfInBounds_toArray, List.set_cons_zero, List.set_cons_succ])
              rw [show (fsH 22 6 [8, 11, 12, 13]).setIfInBounds 6 true = (fsH 22 7 [8, 11, 12, 13]) from by kernel_rfl]
              exact H7_8_11_12_13 _ _ _ _ _ _ _ _ _ _ _ _ _ _ _ _ _ _ _ _ _ _ _ _ _ _ _ _ _ _ _ _ _ _ _ _ _ _ _ _ _ _ _ _ _ _ _ _ _ _ _ _ _ _ _ _ _ _ _ _ _ _ _ _ _ _ _ _ _ _ _ _ _ _ _ _ _ _ _ _ _ _ _ _ _ _ _ _ _ _ _ _ _ _ _ hW' f84
            · refine held_op hop7 (by rw [← hops]; kernel_rfl) (fun K' hK => ?_)
              go_simp
              have f85 : NilB X.heap.size (X.alloc (.cells #[] 3)) := World.alloc_heap_new X _
              replace hW' := kept_trans hW' (kept_new X (.cells #[] 3))
              refine hK _ _ ⟨hW', ?_⟩
              clear hK K'
              (try simp only [Act.put, List.setIfInBounds_toArray, List.set_cons_zero, List.set_cons_succ])
              rw [show (fsH 22 6 [8, 11, 12, 13]).setIfInBounds 7 true = (fsH 22 6 [7, 8, 11, 12, 13]) from by kernel_rfl]
              exact H6_7_8_11_12_13 _ _ _ _ _ _ _ _ _ _ _ _ _ _ _ _ _ _ _ _ _ _ _ _ _ _ _ _ _ _ _ _ _ _ _ _ _ _ _ _ _ _ _ _ _ _ _ _ _ _ _ _ _ _ _ _ _ _ _ _ _ _ _ _ _ _ _ _ _ _ _ _ _ _ _ _ _ _ _ _ _ _ _ _ _ _ _ _ _ _ _ _ _ hW' f85
            · refine held_op hop14 (by rw [← hops]; kernel_rfl) (fun K' hK => ?_)
              go_simp
              have f92 := cells_lit X [.int .i64 n] 3
              replace hW' := kept_trans hW' (kept_new X (.cells #[.int .i64 n] 3))
              refine hK _ _ ⟨hW', ?_⟩
              clear hK K'
              (try simp only [Act.put, List.setIfInBounds_toArray, List.set_cons_zero, List.set_cons_succ])
              rw [show (fsH 22 6 [8, 11, 12, 13]).setIfInBounds 14 true = (fsH 22 6 [8, 11, 12, 13, 14]) from by kernel_rfl]
              exact H6_8_11_12_13_14 _ _ _ _ _ _ _ _ _ _ _ _ _ _ _ _ _ _ _ _ _ _ _ _ _ _ _ _ _ _ _ _ _ _ _ _ _ _ _ _ _ _ _ _ _ _ _ _ _ _ _ _ _ _ _ _ _ _ _ _ _ _ _ _ _ _ _ _ _ _ _ _ _ _ _ _ _ _ _ _ _ _ _ _ _ _ _ _ _ _ _ _ _ _ hW' f92
          have H3 : ∀ (s0 s2 s5 s6 s7 s8 s9 s10 s11 s12 s13 s14 s15 s16 s17 s18 s19 s20 s21 s22 s23 s24 s25 s26 s27 s28 s29 s30 s31 s32 s33 s34 s35 s36 s37 s38 s39 s40 s41 s42 s43 s44 s45 s46 s47 s48 s49 s50 s51 s52 s53 s54 s55 s56 s57 s58 s59 s60 s61 s62 s63 s64 s65 s66 s67 s68 s69 s70 s71 s72 s73 s74 s75 s76 s77 s78 s81 s82 s83 s84 s85 s86 s87 s88 s89 s90 s91 s92 s93 s94 s95 s96 s97 s98 : Value) (v79 : Value) (X : World), Below W0.heap.size W0 X → OwnRows X 0 v79 R0 → wpAnyH Try.prog .any ops QQ (fun Z => Below W0.heap.size W0 Z) 19 (fsH 22 3 []) ({ tmps := #[s0, .pointer (some ⟨w.heap.size, 0, none⟩), s2, .pointer (some ⟨bq, 0, none⟩), .slice aa mb ca, s5, s6, s7, s8, s9, s10, s11, s12, s13, s14, s15, s16, s17, s18, s19, s20, s21, s22, s23, s24, s25, s26, s27, s28, s29, s30, s31, s32, s33, s34, s35, s36, s37, s38, s39, s40, s41, s42, s43, s44, s45, s46, s47, s48, s49, s50, s51, s52, s53, s54, s55, s56, s57, s58, s59, s60, s61, s62, s63, s64, s65, s66, s67, s68, s69, s70, s71, s72, s73, s74, s75, s76, s77, s78, v79, .slice aa mb ca, s81, s82, s83, s84, s85, s86, s87, s88, s89, s90, s91, s92, s93, s94, s95, s96, s97, s98], defers := [] }) X := by
            as_aux_lemma =>
            intro s0 s2 s5 s6 s7 s8 s9 s10 s11 s12 s13 s14 s15 s16 s17 s18 s19 s20 s21 s22 s23 s24 s25 s26 s27 s28 s29 s30 s31 s32 s33 s34 s35 s36 s37 s38 s39 s40 s41 s42 s43 s44 s45 s46 s47 s48 s49 s50 s51 s52 s53 s54 s55 s56 s57 s58 s59 s60 s61 s62 s63 s64 s65 s66 s67 s68 s69 s70 s71 s72 s73 s74 s75 s76 s77 s78 s81 s82 s83 s84 s85 s86 s87 s88 s89 s90 s91 s92 s93 s94 s95 s96 s97 s98 v79 X hW' f79
            refine wpAnyH_all (rs := [3]) (by rw [← hops]; kernel_rfl) (by simp) ?_
            intro ix hix
            simp only [List.mem_cons, List.not_mem_nil, or_false] at hix
            rcases hix with rfl
            · refine held_op hop3 (by rfl) (fun K' hK => ?_)
              go_simp
              refine (D81.out X _ f79 hW').mono ?_
              rintro e Y ⟨rfl, hb⟩
              dsimp only
              replace hW' := kept_trans hW' hb
              refine hK _ _ ⟨hW', ?_⟩
              clear hK K'
              (try simp only [Act.put, List.setIfInBounds_toArray, List.set_cons_zero, List.set_cons_succ])
              rw [show (fsH 22 3 []).setIfInBounds 3 true = (fsH 22 4 []) from by kernel_rfl]
              refine wpAnyH_take (i := 4) (v := .bool true) hop4 hNS (by rw [← hops]; kernel_rfl) (by rw [← hops]; kernel_rfl) (hQp _ _) (.inl ⟨(by rfl), fun wz hz => by
                  have hW' := hz
                  first | (go_simp; done) | (obtain ⟨z0, z1, z2, z3⟩ := hF.out _ hW'; go_simp)⟩) hW' ?_
              (try simp only [Act.put, List.setIfInBounds_toArray, List.set_cons_zero, List.set_cons_succ])
              rw [show (fsH 22 4 []).setIfInBounds 4 true = (fsH 22 5 []) from by kernel_rfl]
              refine wpAnyH_take (i := 5) (v := .agg #[.slice (some ⟨gq, 0, none⟩) (n + 1) cq, .int .i64 win]) hop5 hNS (by rw [← hops]; kernel_rfl) (by rw [← hops]; kernel_rfl) (hQp _ _) (.inl ⟨(by rw [← hops]; kernel_rfl), fun wz hz => by
                  have hW' := hz
                  first | (go_simp; done) | (obtain ⟨z0, z1, z2, z3⟩ := hF.out _ hW'; go_simp)⟩) hW' ?_
              (try simp only [Act.put, List.setIfInBounds_toArray, List.set_cons_zero, List.set_cons_succ])
              rw [show (fsH 22 5 []).setIfInBounds 5 true = (fsH 22 6 []) from by kernel_rfl]
              refine wpAnyH_take (i := 8) (v := .agg #[.slice a n c, .int .i64 win]) hop8 hNS (by rw [← hops]; kernel_rfl) (by rw [← hops]; kernel_rfl) (hQp _ _) (.inl ⟨(by rw [← hops]; kernel_rfl), fun wz hz => by
                  have hW' := hz
                  first | (go_simp; done) | (obtain ⟨z0, z1, z2, z3⟩ := hF.out _ hW'; go_simp)⟩) hW' ?_
              (try simp only [Act.put, List.setIfInBounds_toArray, List.set_cons_zero, List.set_cons_succ])
              rw [show (fsH 22 6 []).setIfInBounds 8 true = (fsH 22 6 [8]) from by kernel_rfl]
              refine wpAnyH_take (i := 11) (v := .pointer (some ⟨w.heap.size, 0, none⟩)) hop11 hNS (by rw [← hops]; kernel_rfl) (by rw [← hops]; kernel_rfl) (hQp _ _) (.inl ⟨(by rw [← hops]; kernel_rfl), fun wz hz => by
                  have hW' := hz
                  first | (go_simp; done) | (obtain ⟨z0, z1, z2, z3⟩ := hF.out _ hW'; go_simp)⟩) hW' ?_
              (try simp only [Act.put, List.setIfInBounds_toArray, List.set_cons_zero, List.set_cons_succ])
              rw [show (fsH 22 6 [8]).setIfInBounds 11 true = (fsH 22 6 [8, 11]) from by kernel_rfl]
              refine wpAnyH_take (i := 12) (v := .slice a n c) hop12 hNS (by rw [← hops]; kernel_rfl) (by rw [← hops]; kernel_rfl) (hQp _ _) (.inl ⟨(by rw [← hops]; kernel_rfl), fun wz hz => by
                  have hW' := hz
                  first | (go_simp; done) | (obtain ⟨z0, z1, z2, z3⟩ := hF.out _ hW'; go_simp)⟩) hW' ?_
              (try simp only [Act.put, List.setIfInBounds_toArray, List.set_cons_zero, List.set_cons_succ])
              rw [show (fsH 22 6 [8, 11]).setIfInBounds 12 true = (fsH 22 6 [8, 11, 12]) from by kernel_rfl]
              refine wpAnyH_take (i := 13) (v := .int .i64 n) hop13 hNS (by rw [← hops]; kernel_rfl) (by rw [← hops]; kernel_rfl) (hQp _ _) (.inl ⟨(by rw [← hops]; kernel_rfl), fun wz hz => by
                  have hW' := hz
                  first | (go_simp; done) | (obtain ⟨z0, z1, z2, z3⟩ := hF.out _ hW'; go_simp)⟩) hW' ?_
              (try simp only [Act.put, List.setIfInBounds_toArray, List.set_cons_zero, List.set_cons_succ])
              rw [show (fsH 22 6 [8, 11, 12]).setIfInBounds 13 true = (fsH 22 6 [8, 11, 12, 13]) from by kernel_rfl]
              exact H6_8_11_12_13 _ _ _ _ _ _ _ _ _ _ _ _ _ _ _ _ _ _ _ _ _ _ _ _ _ _ _ _ _ _ _ _ _ _ _ _ _ _ _ _ _ _ _ _ _ _ _ _ _ _ _ _ _ _ _ _ _ _ _ _ _ _ _ _ _ _ _ _ _ _ _ _ _ _ _ _ _ _ _ _ _ _ _ _ _ _ _ _ _ _ _ _ _ hW' 
          have H1_2 : ∀ (s0 s2 s5 s6 s7 s8 s9 s10 s11 s12 s13 s14 s15 s16 s17 s18 s19 s20 s21 s22 s23 s24 s25 s26 s27 s28 s29 s30 s31 s32 s33 s34 s35 s36 s37 s38 s39 s40 s41 s42 s43 s44 s45 s46 s47 s48 s49 s50 s51 s52 s53 s54 s55 s56 s57 s58 s59 s60 s61 s62 s63 s64 s65 s66 s67 s68 s69 s70 s71 s72 s73 s74 s75 s76 s77 s79 s81 s82 s83 s84 s85 s86 s87 s88 s89 s90 s91 s92 s93 s94 s95 s96 s97 s98 : Value) (X : World), Below W0.heap.size W0 X → wpAnyH Try.prog .any ops QQ (fun Z => Below W0.heap.size W0 Z) 20 (fsH 22 1 [2]) ({ tmps := #[s0, .pointer (some ⟨w.heap.size, 0, none⟩), s2, .pointer (some ⟨bq, 0, none⟩), .slice aa mb ca, s5, s6, s7, s8, s9, s10, s11, s12, s13, s14, s15, s16, s17, s18, s19, s20, s21, s22, s23, s24, s25, s26, s27, s28, s29, s30, s31, s32, s33, s34, s35, s36, s37, s38, s39, s40, s41, s42, s43, s44, s45, s46, s47, s48, s49, s50, s51, s52, s53, s54, s55, s56, s57, s58, s59, s60, s61, s62, s63, s64, s65, s66, s67, s68, s69, s70, s71, s72, s73, s74, s75, s76, s77, .agg #[.slice (some ⟨gq, 0, none⟩) (n + 1) cq, .int .i64 win], s79, .slice aa mb ca, s81, s82, s83, s84, s85, s86, s87, s88, s89, s90, s91, s92, s93, s94, s95, s96, s97, s98], defers := [] }) X := by
            as_aux_lemma =>
            intro s0 s2 s5 s6 s7 s8 s9 s10 s11 s12 s13 s14 s15 s16 s17 s18 s19 s20 s21 s22 s23 s24 s25 s26 s27 s28 s29 s30 s31 s32 s33 s34 s35 s36 s37 s38 s39 s40 s41 s42 s43 s44 s45 s46 s47 s48 s49 s50 s51 s52 s53 s54 s55 s56 s57 s58 s59 s60 s61 s62 s63 s64 s65 s66 s67 s68 s69 s70 s71 s72 s73 s74 s75 s76 s77 s79 s81 s82 s83 s84 s85 s86 s87 s88 s89 s90 s91 s92 s93 s94 s95 s96 s97 s98 X hW'
            refine wpAnyH_all (rs := [1]) (by rw [← hops]; kernel_rfl) (by simp) ?_
            intro ix hix
            simp only [List.mem_cons, List.not_mem_nil, or_false] at hix
            rcases hix with rfl
            · refine held_op hop1 (by rfl) (fun K' hK => ?_)
              go_simp
              refine (D79.out X hW').mono ?_
              rintro e Y ⟨v79, rfl, f79, hb⟩
              dsimp only
              replace hW' := kept_trans hW' hb
              refine hK _ _ ⟨hW', ?_⟩
              clear hK K'
              (try simp only [Act.put, List.setIfInBounds_toArray, List.set_cons_zero, List.set_cons_succ])
              rw [show (fsH 22 1 [2]).setIfInBounds 1 true = (fsH 22 3 []) from by kernel_rfl]
              exact H3 _ _ _ _ _ _ _ _ _ _ _ _ _ _ _ _ _ _ _ _ _ _ _ _ _ _ _ _ _ _ _ _ _ _ _ _ _ _ _ _ _ _ _ _ _ _ _ _ _ _ _ _ _ _ _ _ _ _ _ _ _ _ _ _ _ _ _ _ _ _ _ _ _ _ _ _ _ _ _ _ _ _ _ _ _ _ _ _ _ _ _ _ _ _ _ _ hW' f79
          have hsz : ops.size = 22 := by rw [← hops]; rfl
          rw [hsz]
          rw [show Array.replicate 22 false = (fsH 22 0 []) from by rfl]
          refine wpAnyH_take (i := 0) (v := .agg #[.slice (some ⟨gq, 0, none⟩) (n + 1) cq, .int .i64 win]) hop0 hNS (by rw [← hops]; kernel_rfl) (by rw [← hops]; kernel_rfl) (hQp _ _) (.inl ⟨(by rfl), fun wz hz => by
              have hW' := hz
              first | (go_simp; done) | (obtain ⟨z0, z1, z2, z3⟩ := hF.out _ hW'; go_simp)⟩) hW' ?_
          (try simp only [Act.put, List.setIfInBounds_toArray, List.set_cons_zero, List.set_cons_succ])
          rw [show (fsH 22 0 []).setIfInBounds 0 true = (fsH 22 1 []) from by kernel_rfl]
          refine wpAnyH_take (i := 2) (v := .slice aa mb ca) hop2 hNS (by rw [← hops]; kernel_rfl) (by rw [← hops]; kernel_rfl) (hQp _ _) (.inl ⟨(by rfl), fun wz hz => by
              have hW' := hz
              first | (go_simp; done) | (obtain ⟨z0, z1, z2, z3⟩ := hF.out _ hW'; go_simp)⟩) hW' ?_
          (try simp only [Act.put, List.setIfInBounds_toArray, List.set_cons_zero, List.set_cons_succ])
          rw [show (fsH 22 1 []).setIfInBounds 2 true = (fsH 22 1 [2]) from by kernel_rfl]
          exact H1_2 _ _ _ _ _ _ _ _ _ _ _ _ _ _ _ _ _ _ _ _ _ _ _ _ _ _ _ _ _ _ _ _ _ _ _ _ _ _ _ _ _ _ _ _ _ _ _ _ _ _ _ _ _ _ _ _ _ _ _ _ _ _ _ _ _ _ _ _ _ _ _ _ _ _ _ _ _ _ _ _ _ _ _ _ _ _ _ _ _ _ _ _ _ _ _ hW' 
end Go.Proofs.Ytfkdgaeiiejjlaa.Tree
