/-
  Contracts of bytes.Clone at bytes in memory and of split.All at every script in memory: its pieces, in memory of their own; no other condition.
-/
import Derived.Test.YtepbjjddpfejnaaU
namespace Go.Proofs.Ytepbjjddpfejnaa
open Go.ChangeShapes Go.WideShapes Go.ChangeAt Go.RowKit
set_option linter.unusedVariables false
set_option linter.unusedSimpArgs false
attribute [local go_sem] Oper.semAt_some
/-- Bytes as cells. -/
abbrev cellsU (l : List Int) : List Value := l.map (Value.int .u8)
theorem cellsU_one (l : List Int) : ∀ u ∈ cellsU l, u.oneCell' = true := by
  intro u hu
  obtain ⟨z, _, rfl⟩ := List.mem_map.1 hu
  rfl
set_option maxHeartbeats 400000 in
theorem clone_any (x : Addr) (c : Nat) (l : List Int) (w : World) (hl : l.length ≤ 140737488351232) (hc : ∀ j u, (cellsU l)[j]? = some u → w.cell? (x.add j) = some u) :
    Calls Try.prog 18 #[.slice (some x) l.length c] w fun e w' => ∃ g c', e = .returned (.slice (some ⟨g, 0, none⟩) l.length c') ∧ w'.ownsRow w.heap.size 5 1 (.slice (some ⟨g, 0, none⟩) l.length c') l.length (cellsU l) ∧ Below w.heap.size w w' := by
  obtain ⟨i0, hi, hz0, hz1, hz2⟩ := info_parts Try.info5
  have hi := Lib.hid hi
  have hlit : (w.alloc (.cells #[] 5)).ownsRow w.heap.size 5 1 (.slice (some ⟨w.heap.size, 0, none⟩) 0 0) 0 [] :=
    ⟨rfl, .inr ⟨_, _, _, rfl, Nat.le_refl _, World.alloc_heap_new w _, Nat.le_refl _, by decide, rfl, rfl⟩⟩
  have hc' : ∀ j u, (cellsU l)[j]? = some u → (w.alloc (.cells #[] 5)).cell? (x.add j) = some u := fun j u hj => by
    have h := hc j u hj
    exact (World.cell?_of_block (w := w) (Below.heap_alloc _ _ _ (World.block_lt_of_cell? w _ h))).trans h
  have hone := cellsU_one l
  have hln : (cellsU l).length = l.length * 1 := by simp
  generalize cellsU l = L at *
  generalize l.length = m at *
  have q22 : ∀ w : World, (binOp .eql 22 (.slice (some x) m c) (.slice none 0 0)).run Try.prog w = .ok (.bool false) w := fun w => Lib.run_eql_slice_nil w _ _ _ _ _ _ _ Try.underlying22
  go_enter Try.func18, Try.ntmps18
  go_wp2_with (at_builtin; refine wpList_append_own _ rfl _ _ 22 rfl w.heap.size 5 i0 (.int .u8 0) 1 1 Try.underlying22 hi.out hz0 hz1 hz2 rfl (by decide) _ _ _ rfl hlit x m c L rfl hln hc' hone (by unfold maxLen; omega) (by omega) (by simp) ?_; intro v' w1 hown' hgrow hnil)
  obtain ⟨g', cap', rfl⟩ : ∃ g' cap', v' = .slice (some ⟨g', 0, none⟩) m cap' := by
    rcases hown'.2 with ⟨rfl, h0⟩ | ⟨g, cap, cur, rfl, _⟩
    · have h := (hnil.1 rfl).1
      change Value.slice (some ⟨w.heap.size, 0, none⟩) 0 0 = Value.slice none 0 0 at h
      cases h
    · exact ⟨g, cap, by rw [Nat.zero_add]⟩
  rw [Nat.zero_add, List.nil_append] at hown'
  go_wp2
  go_ret
  exact ⟨_, _, rfl, hown', ((Below.refl w.heap.size w).alloc (Nat.le_refl _) _).grown hgrow (by simp) (fun j e => by cases e; exact Nat.le_refl _)⟩
/-- A piece of a script: where its length stands, its bytes, whether it is cut. -/
structure Pc where
  at_ : Nat
  bytes : List Int
  cut : Bool
/-- Pieces with the slices of their bytes, as cells. -/
def pcCells (L : List (Pc × Value)) : List Value := L.flatMap fun x => [.int .i64 x.1.at_, x.2, .bool x.1.cut]
theorem pcCells_len (L : List (Pc × Value)) : (pcCells L).length = L.length * 3 := by
  induction L with
  | nil => rfl
  | cons x r ih => simp only [pcCells, List.flatMap_cons, List.length_append, List.length_cons, List.length_nil] at ih ⊢; omega
theorem pcCells_snoc (L : List (Pc × Value)) (p : Pc) (s : Value) : pcCells L ++ [.int .i64 p.at_, s, .bool p.cut] = pcCells (L ++ [(p, s)]) := by simp [pcCells]
/-- The bytes of each lie in rows of their own. -/
def PcRows (base : Nat) (L : List (Pc × Value)) (W : World) : Prop := ∀ x ∈ L, W.ownsRow base 5 1 x.2 x.1.bytes.length (cellsU x.1.bytes)
/-- The pieces L lie in the row v. -/
def PcsL (base : Nat) (v : Value) (L : List (Pc × Value)) (W : World) : Prop := W.ownsRow base 28 3 v L.length (pcCells L) ∧ PcRows base L W
/-- The pieces ps lie in the row v. -/
def PcsAt (base : Nat) (v : Value) (ps : List Pc) (W : World) : Prop := ∃ L : List (Pc × Value), L.map (·.1) = ps ∧ PcsL base v L W
theorem row_kept {W W' : World} {base : Nat} {e : TypeId} {size n : Nat} {v : Value} {xs : List Value} {row : Option Nat} (h : W.ownsRow base e size v n xs) (hg : W.grownBy W' row) (hrow : ∀ r, row = some r → ∃ o : Obj, W.heap[r]? = some o ∧ ∀ cs fz, o ≠ .cells cs e fz) : W'.ownsRow base e size v n xs := by
  refine h.kept hg ?_
  rcases h.2 with ⟨rfl, _⟩ | ⟨g, cap, cur, rfl, _, hgb, _⟩
  · exact .inl rfl
  · refine .inr fun e' => ?_
    obtain ⟨o, ho, hc⟩ := hrow g (by simpa [Value.ownBlock] using e'.symm)
    rw [hgb] at ho; cases ho; exact hc _ _ rfl
theorem PcRows.kept {W W' : World} {base : Nat} {L : List (Pc × Value)} {row : Option Nat} (h : PcRows base L W) (hg : W.grownBy W' row) (hrow : ∀ r, row = some r → ∃ o : Obj, W.heap[r]? = some o ∧ ∀ cs fz, o ≠ .cells cs 5 fz) : PcRows base L W' :=
  fun x hx => row_kept (h x hx) hg hrow
theorem grown_of_below {W W' : World} (h : Below W.heap.size W W') : W.grownBy W' none := ⟨h.os, h.tape, h.output, h.size, fun k hk _ => h.block k hk⟩
theorem row_later {W W' : World} {base : Nat} {e : TypeId} {size n : Nat} {v : Value} {xs : List Value} (h : W.ownsRow base e size v n xs) (hb : Below W.heap.size W W') : W'.ownsRow base e size v n xs :=
  row_kept h (grown_of_below hb) (fun r e => by cases e)
theorem row_base {W : World} {base base' : Nat} {e : TypeId} {size n : Nat} {v : Value} {xs : List Value} (h : W.ownsRow base e size v n xs) (hb : base' ≤ base) : W.ownsRow base' e size v n xs := by
  refine ⟨h.1, ?_⟩
  rcases h.2 with hn | ⟨g, cap, cur, rfl, hg, rest⟩
  · exact .inl hn
  · exact .inr ⟨g, cap, cur, rfl, Nat.le_trans hb hg, rest⟩
theorem PcRows.later {W W' : World} {base : Nat} {L : List (Pc × Value)} (h : PcRows base L W) (hb : Below W.heap.size W W') : PcRows base L W' := fun x hx => row_later (h x hx) hb
theorem grownBy_setCell_any (W : World) (b o : Nat) (v : Value) : W.grownBy (W.setCell ⟨b, o, none⟩ v) (some b) :=
  ⟨rfl, rfl, rfl, (KeepsWalks.setCell W _ v).size, fun k _ hk => Below.heap_setCell _ _ _ k (fun e => hk (by rw [e]))⟩
/-- The pieces of a script. -/
def pcOf (zs : List Int) (k : Nat) : Pc := ⟨k, ck zs (k + 1) (hasAt zs k), cutAt zs k⟩
def pcsTo (zs : List Int) (n : Nat) : List Pc := (List.range n).map fun j => pcOf zs (placeOf zs j)
def pcsOf (zs : List Int) : List Pc := pcsTo zs (cnt zs)
theorem pcsTo_succ (zs : List Int) (n : Nat) : pcsTo zs (n + 1) = pcsTo zs n ++ [pcOf zs (placeOf zs n)] := by simp [pcsTo, List.range_succ]
theorem pcsTo_len (zs : List Int) (n : Nat) : (pcsTo zs n).length = n := by simp [pcsTo]
theorem pc_len (zs : List Int) (k : Nat) (h : k < zs.length) : (pcOf zs k).bytes.length = hasAt zs k := by
  have := hasAt_le zs k h
  simp [pcOf, ck]; omega
end Go.Proofs.Ytepbjjddpfejnaa
