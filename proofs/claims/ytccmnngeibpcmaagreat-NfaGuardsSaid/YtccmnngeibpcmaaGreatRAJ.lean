/-
  Patterns, steps and terms that came in, opened.
-/
import Derived.Test.YtccmnngeibpcmaaGreatRAH
import Derived.Lib.SmallJoins
namespace Go.Proofs.YtccmnngeibpcmaaGreat.Tree
open Go.ChangeShapes Go.WideShapes Go.ChangeAt Go.RowKit Go.Joins Go.Deep
set_option linter.unusedVariables false
set_option maxRecDepth 100000
set_option linter.unusedSimpArgs false
theorem cells24 : Tryz.prog.cellsOf 24 = 2 := by kernel_rfl
theorem cells36 : Tryz.prog.cellsOf 45 = 6 := by kernel_rfl
theorem cells45 : Tryz.prog.cellsOf 95 = 9 := by kernel_rfl
theorem cells26 : Tryz.prog.cellsOf 93 = 4 := by kernel_rfl
theorem cells22 : Tryz.prog.cellsOf 22 = 1 := by kernel_rfl
theorem cells34 : Tryz.prog.cellsOf 43 = 1 := by kernel_rfl
theorem cells5 : Tryz.prog.cellsOf 5 = 1 := by kernel_rfl
theorem cells4 : Tryz.prog.cellsOf 4 = 1 := by kernel_rfl
theorem cells3 : Tryz.prog.cellsOf 3 = 1 := by kernel_rfl
theorem list4 {α : Type} {l : List α} (h : l.length = 4) : ∃ c0 c1 c2 c3, l = [c0, c1, c2, c3] := by
  match l, h with
  | [c0, c1, c2, c3], _ => exact ⟨c0, c1, c2, c3, rfl⟩
theorem list6 {α : Type} {l : List α} (h : l.length = 6) : ∃ c0 c1 c2 c3 c4 c5, l = [c0, c1, c2, c3, c4, c5] := by
  match l, h with
  | [c0, c1, c2, c3, c4, c5], _ => exact ⟨c0, c1, c2, c3, c4, c5, rfl⟩
theorem list9 {α : Type} {l : List α} (h : l.length = 9) : ∃ c0 c1 c2 c3 c4 c5 c6 c7 c8, l = [c0, c1, c2, c3, c4, c5, c6, c7, c8] := by
  match l, h with
  | [c0, c1, c2, c3, c4, c5, c6, c7, c8], _ => exact ⟨c0, c1, c2, c3, c4, c5, c6, c7, c8, rfl⟩
theorem array6 {α : Type} {cs : Array α} (h : cs.size = 6) : ∃ c0 c1 c2 c3 c4 c5, cs = #[c0, c1, c2, c3, c4, c5] := by
  obtain ⟨l⟩ := cs
  match l, h with
  | [c0, c1, c2, c3, c4, c5], _ => exact ⟨c0, c1, c2, c3, c4, c5, rfl⟩
section
variable {H : Type} {enc : TypeId × Value → H} {w : World} {base : Nat} {spare : Nat → Bool} {held : Bool}
abbrev tmC (t : Tm) : List Value := [.int .u8 t.k, .int .i64 t.n, .int .i64 t.s, .int .i64 t.r]
theorem open_tm {fuel : Nat} {cs : List Value} {x : DataW H × List MemPlace} (h : DataW.trod enc Tryz.prog w base spare held fuel 93 cs = some x) : ∃ t : Tm, cs = tmC t := by
  obtain ⟨y0, y1, y2, y3, n, -, hl, h0, h1, h2, h3⟩ := trod_struct4 Tryz.underlying93 h
  obtain ⟨c0, c1, c2, c3, rfl⟩ := list4 (hl.trans cells26)
  simp only [cells5, cells3, List.drop, List.take] at h0 h1 h2 h3
  obtain ⟨k, e0, -, -⟩ := DataW.trod_int Tryz.underlying5 h0
  obtain ⟨a, e1, -, -⟩ := DataW.trod_int Tryz.underlying3 h1
  obtain ⟨s, e2, -, -⟩ := DataW.trod_int Tryz.underlying3 h2
  obtain ⟨r, e3, -, -⟩ := DataW.trod_int Tryz.underlying3 h3
  simp at e0 e1 e2 e3
  subst e0 e1 e2 e3
  exact ⟨⟨k, a, s, r⟩, rfl⟩
abbrev cpC (c : Cp) : List Value := [.int .u8 c.op, .int .u8 c.l.k, .int .i64 c.l.n, .int .i64 c.l.s, .int .i64 c.l.r, .int .u8 c.r.k, .int .i64 c.r.n, .int .i64 c.r.s, .int .i64 c.r.r]
theorem open_cp {fuel : Nat} {cs : List Value} {x : DataW H × List MemPlace} (h : DataW.trod enc Tryz.prog w base spare held fuel 95 cs = some x) : ∃ c : Cp, cs = cpC c ∧ 0 ≤ c.op ∧ c.op < 256 := by
  obtain ⟨y0, y1, y2, n, -, hl, h0, h1, h2⟩ := trod_struct3 Tryz.underlying95 h
  obtain ⟨c0, c1, c2, c3, c4, c5, c6, c7, c8, rfl⟩ := list9 (hl.trans cells45)
  simp only [cells5, cells26, List.drop, List.take] at h0 h1 h2
  obtain ⟨op, e0, -, hw⟩ := DataW.trod_int Tryz.underlying5 h0
  obtain ⟨t, e1⟩ := open_tm h1
  obtain ⟨u, e2⟩ := open_tm h2
  simp at e0 e1 e2
  obtain ⟨rfl, rfl, rfl, rfl⟩ := e1
  obtain ⟨rfl, rfl, rfl, rfl⟩ := e2
  subst e0
  refine ⟨⟨op, t, u⟩, rfl, ?_⟩
  have hw' : decide (0 ≤ op) = true ∧ decide (op ≤ 255) = true := by simpa [Lit.wf, IntKind.min, IntKind.max, IntKind.signed, IntKind.bits] using hw
  simp at hw'
  exact ⟨hw'.1, by show op < 256; omega⟩
/-- A row that came in, opened. -/
theorem open_row {α : Type} [Inhabited α] {t e : TypeId} {fuel : Nat} {cs : List Value} {x : DataW H × List MemPlace} (k : Nat) (hk : Tryz.prog.cellsOf e = k) (hpos : 0 < k) (f : α → List Value) (hf : ∀ x, (f x).length = k) (Q : α → Prop)
    (ht : Tryz.prog.underlying t = some (.slice e)) (he : ∀ n cs' y, DataW.trod enc Tryz.prog w base spare held n e cs' = some y → ∃ x, cs' = f x ∧ Q x)
    (h : DataW.trod enc Tryz.prog w base spare held fuel t cs = some x) : ∃ a c, ∃ l : List α, cs = [.slice a l.length c] ∧ l.length ≤ maxLen ∧ CellsAt w a (l.flatMap f) ∧ ∀ x ∈ l, Q x := by
  rcases open_slice ht h with ⟨rfl, -⟩ | ⟨a, len, cap, m, n, D, Pl, rfl, hb, hl, hm, hmm, -, hx⟩
  · exact ⟨none, 0, [], rfl, Nat.zero_le _, .inl rfl, fun x hx => by cases hx⟩
  · have hlm : len ≤ m := by rw [hmm]; split <;> omega
    have each : ∀ i, i < len → ∃ q : α, Q q ∧ ∀ j, j < k → w.cell? ((a.add (i * k)).add j) = (f q)[j]? := by
      intro i hi
      obtain ⟨cs', h1, h2⟩ := hx i (by omega)
      rw [hk] at h1
      obtain ⟨-, hlen, hcell⟩ := World.cells?_some h1
      obtain ⟨q, rfl, hq⟩ := he _ _ _ h2
      exact ⟨q, hq, hcell⟩
    obtain ⟨q, hq⟩ := choose_lt each
    have hlen : ((List.range len).map q).length = len := by simp
    refine ⟨some a, cap, (List.range len).map q, by rw [hlen], by rw [hlen]; exact Nat.le_trans hl hm, ?_, ?_⟩
    · by_cases h0 : len = 0
      · subst h0; exact .inl rfl
      · obtain ⟨b, off, spot⟩ := a
        have hc0 := (hq 0 (by omega)).2 0 hpos
        rw [List.getElem?_eq_getElem (by rw [hf]; exact hpos)] at hc0
        have hspot : spot = none := by simpa [Addr.add] using World.cell?_spot hc0
        subst hspot
        refine .inr ⟨b, off, rfl, fun j u hj => ?_⟩
        have hjl := (List.getElem?_eq_some_iff.1 hj).1
        rw [flat_len k f hf, hlen] at hjl
        have hi : j / k < len := Nat.div_lt_of_lt_mul (by rw [Nat.mul_comm]; exact hjl)
        have hr : j % k < k := Nat.mod_lt _ hpos
        have hq' := (hq (j / k) hi).2 (j % k) hr
        have hrow : ((List.range len).map q)[j / k]? = some (q (j / k)) := by simp [hi]
        have hfa := flat_at k f hf _ (j / k) _ hrow (j % k) hr
        have hdm : j / k * k + j % k = j := by rw [Nat.mul_comm]; exact Nat.div_add_mod j k
        rw [hdm, hj] at hfa
        rw [← hfa, add_add, hdm] at hq'
        rw [← hq']
        congr 1
        unfold Addr.add; split <;> simp_all
    · intro x hx
      obtain ⟨i, hi, rfl⟩ := List.mem_map.1 hx
      exact (hq i (List.mem_range.1 hi)).1
theorem open_cps {fuel : Nat} {v : Value} {x : DataW H × List MemPlace} (h : DataW.trod enc Tryz.prog w base spare held fuel 43 [v] = some x) : ∃ l : List Cp, CpsAt w v l ∧ l.length ≤ maxLen ∧ ∀ c ∈ l, 0 ≤ c.op ∧ c.op < 256 := by
  obtain ⟨a, c, l, e, hl, hc, hQ⟩ := open_row 9 cells45 (by omega) cpC (fun _ => rfl) (fun c : Cp => 0 ≤ c.op ∧ c.op < 256) Tryz.underlying43 (fun n cs' y h => open_cp h) h
  simp at e
  subst e
  exact ⟨l, ⟨a, c, rfl, hc⟩, hl, hQ⟩
abbrev spC (x : Sp × Value) : List Value := [.bool x.1.neg, .int .i64 x.1.kind, .int .i64 x.1.min, .int .i64 x.1.max, .bool x.1.strict, x.2]
/-- What is known of a step that came in. -/
def InSp (w : World) (x : Sp × Value) : Prop := CpsAt w x.2 x.1.cs ∧ x.1.cs.length ≤ maxLen ∧ ∀ c ∈ x.1.cs, 0 ≤ c.op ∧ c.op < 256
theorem trod_struct6 {t : TypeId} {f0 f1 f2 f3 f4 f5 : Field} {fuel : Nat} {cs : List Value} {x : DataW H × List MemPlace} (ht : Tryz.prog.underlying t = some (.struct #[f0, f1, f2, f3, f4, f5])) (h : DataW.trod enc Tryz.prog w base spare held fuel t cs = some x) :
    ∃ y0 y1 y2 y3 y4 y5 n, cs.length = Tryz.prog.cellsOf t ∧ DataW.trod enc Tryz.prog w base spare held n f0.type ((cs.drop f0.offset).take (Tryz.prog.cellsOf f0.type)) = some y0 ∧
      DataW.trod enc Tryz.prog w base spare held n f1.type ((cs.drop f1.offset).take (Tryz.prog.cellsOf f1.type)) = some y1 ∧ DataW.trod enc Tryz.prog w base spare held n f2.type ((cs.drop f2.offset).take (Tryz.prog.cellsOf f2.type)) = some y2 ∧
      DataW.trod enc Tryz.prog w base spare held n f3.type ((cs.drop f3.offset).take (Tryz.prog.cellsOf f3.type)) = some y3 ∧ DataW.trod enc Tryz.prog w base spare held n f4.type ((cs.drop f4.offset).take (Tryz.prog.cellsOf f4.type)) = some y4 ∧
      DataW.trod enc Tryz.prog w base spare held n f5.type ((cs.drop f5.offset).take (Tryz.prog.cellsOf f5.type)) = some y5 := by
  obtain ⟨xs, n, _, rfl, hl, hlen, hf⟩ := DataW.trod_struct ht h
  match xs, hlen with
  | [y0, y1, y2, y3, y4, y5], _ => exact ⟨y0, y1, y2, y3, y4, y5, n, hl, by simpa using hf 0 f0 rfl, by simpa using hf 1 f1 rfl, by simpa using hf 2 f2 rfl, by simpa using hf 3 f3 rfl, by simpa using hf 4 f4 rfl, by simpa using hf 5 f5 rfl⟩
theorem open_sp {fuel : Nat} {cs : List Value} {x : DataW H × List MemPlace} (h : DataW.trod enc Tryz.prog w base spare held fuel 45 cs = some x) : ∃ s : Sp × Value, cs = spC s ∧ InSp w s := by
  obtain ⟨y0, y1, y2, y3, y4, y5, n, hl, h0, h1, h2, h3, h4, h5⟩ := trod_struct6 Tryz.underlying45 h
  obtain ⟨c0, c1, c2, c3, c4, c5, rfl⟩ := list6 (hl.trans cells36)
  simp only [cells4, cells3, cells34, List.drop, List.take] at h0 h1 h2 h3 h4 h5
  obtain ⟨neg, e0, -⟩ := DataW.trod_bool Tryz.underlying4 h0
  obtain ⟨kind, e1, -, -⟩ := DataW.trod_int Tryz.underlying3 h1
  obtain ⟨mn, e2, -, -⟩ := DataW.trod_int Tryz.underlying3 h2
  obtain ⟨mx, e3, -, -⟩ := DataW.trod_int Tryz.underlying3 h3
  obtain ⟨strict, e4, -⟩ := DataW.trod_bool Tryz.underlying4 h4
  obtain ⟨l, hc, hle, hq⟩ := open_cps h5
  simp at e0 e1 e2 e3 e4
  subst e0 e1 e2 e3 e4
  exact ⟨(⟨neg, kind, mn, mx, strict, l⟩, c5), rfl, hc, hle, hq⟩
theorem open_sps {fuel : Nat} {v : Value} {x : DataW H × List MemPlace} (h : DataW.trod enc Tryz.prog w base spare held fuel 22 [v] = some x) : ∃ L : List (Sp × Value), SpsL w v L ∧ L.length ≤ maxLen ∧ ∀ x ∈ L, InSp w x := by
  obtain ⟨a, c, l, e, hl, hc, hQ⟩ := open_row 6 cells36 (by omega) spC (fun _ => rfl) (InSp w) Tryz.underlying22 (fun n cs' y h => open_sp h) h
  simp at e
  subst e
  exact ⟨l, ⟨⟨a, c, rfl, hc⟩, fun x hx => (hQ x hx).1⟩, hl, hQ⟩
theorem open_pt {r : Reach} {b0 : Nat} {v : Value} {d : DataW H} {p : List MemPlace} (hv : Value.okWide Tryz.prog w r b0 24 v) (h : DataW.Trod enc Tryz.prog w base spare held 24 v d p) :
    ∃ (u : Value) (L : List (Sp × Value)) (win : Int), v = ptV u win ∧ SpsL w u L ∧ L.length ≤ maxLen ∧ ∀ x ∈ L, InSp w x := by
  obtain ⟨v0, v1, y0, y1, n, rfl, -, -, h0, h1⟩ := open_agg2 Tryz.underlying24 (by kernel_rfl) cells24 hv h
  obtain ⟨L, hL, hl, hq⟩ := open_sps h0
  obtain ⟨win, e1, -, -⟩ := DataW.trod_int Tryz.underlying3 h1
  simp at e1
  subst e1
  exact ⟨v0, L, win, rfl, hL, hl, hq⟩
theorem open_st {r : Reach} {b0 : Nat} {v : Value} {d : DataW H} {p : List MemPlace} (hv : Value.okWide Tryz.prog w r b0 45 v) (h : DataW.Trod enc Tryz.prog w base spare held 45 v d p) :
    ∃ (s : Sp) (u : Value), v = spV s u ∧ InSp w (s, u) := by
  obtain ⟨cs, rfl, hsz⟩ := okWide_struct Tryz.underlying45 hv
  obtain ⟨c0, c1, c2, c3, c4, c5, rfl⟩ := array6 (hsz.trans cells36)
  obtain ⟨fuel, hf⟩ := h
  obtain ⟨⟨s, u⟩, e, hq⟩ := open_sp hf
  simp [Value.cells] at e
  obtain ⟨rfl, rfl, rfl, rfl, rfl, rfl⟩ := e
  exact ⟨s, _, rfl, hq⟩
theorem open_te {r : Reach} {b0 : Nat} {v : Value} {d : DataW H} {p : List MemPlace} (hv : Value.okWide Tryz.prog w r b0 93 v) (h : DataW.Trod enc Tryz.prog w base spare held 93 v d p) :
    ∃ t : Tm, v = tmV t := by
  obtain ⟨cs, rfl, hsz⟩ := okWide_struct Tryz.underlying93 hv
  obtain ⟨c0, c1, c2, c3, rfl⟩ := array4 (hsz.trans cells26)
  obtain ⟨fuel, hf⟩ := h
  obtain ⟨t, e⟩ := open_tm hf
  simp [Value.cells] at e
  obtain ⟨rfl, rfl, rfl, rfl⟩ := e
  exact ⟨t, rfl⟩
end
end Go.Proofs.YtccmnngeibpcmaaGreat.Tree
