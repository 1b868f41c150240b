/-
  'append(s, b...)' of bytes in memory to a row of one's own, where the operation stands behind a guard that holds; no condition.
-/
import Derived.Test.YtepbjjddpfejnaaAK
namespace Go.Proofs.Ytepbjjddpfejnaa
open Go.ChangeShapes Go.WideShapes Go.ChangeAt Go.RowKit
set_option linter.unusedVariables false
set_option linter.unusedSimpArgs false
theorem wp_append_scr {P : Program} {w : World} {o : Oper} {a : Act} {K : Act → World → Prop} {Q : Exit → Act → World → Prop} (s x : Operand) (t : TypeId)
    (ho : o.op = .call { callee := .builtin .append, args := #[s, x], argTypes := #[t, t] })
    (base : Nat) (i : TypeInfo) (ht : P.underlying t = some (.slice 5)) (hi : P.info? 5 = some i) (hz : i.zero = some (.int .u8 0)) (hsize : i.size = 1) (hby : i.bytes = 1)
    (v : Value) (n : Nat) (xs : List Value) (hs : a.eval s = v) (hown : w.ownsRow base 5 1 v n xs) (sv : Value) (zs : List Int) (hx : a.eval x = sv) (hsv : Scr sv zs w)
    (h63 : n + zs.length ≤ 140737488351232) (hbase : base ≤ w.heap.size)
    (h : ∀ v' w', w'.ownsRow base 5 1 v' (n + zs.length) (xs ++ cellsU zs) → w.grownBy w' v.ownBlock → (v = .slice none 0 0 ∨ ∃ g c, v' = .slice (some ⟨g, 0, none⟩) (n + zs.length) c) → K (a.put o.dst v') w') : o.wp P a w K Q := by
  have hsome : ∀ {v' : Value} {w' : World}, w'.ownsRow base 5 1 v' (n + zs.length) (xs ++ cellsU zs) → (v' = .slice none 0 0 → v = .slice none 0 0) → (v = .slice none 0 0 ∨ ∃ g c, v' = .slice (some ⟨g, 0, none⟩) (n + zs.length) c) := fun hr hn => by
    rcases hr.2 with ⟨e, _⟩ | ⟨g, c, _, e, _⟩
    · exact .inl (hn e)
    · exact .inr ⟨g, c, e⟩
  rcases hsv with ⟨rfl, rfl⟩ | ⟨y, cap, rfl, rfl⟩ | ⟨blk, off, cap, rfl, hcap, hb⟩
  · have hrun := run_append_owned_none (P := P) (w := w) base t o.type 5 i 1 ht hi v n xs hown
    have hr : w.ownsRow base 5 1 v (n + ([] : List Int).length) (xs ++ cellsU []) := by simpa using hown
    unfold Oper.wp
    simp [execOp, ho, resolve, invoke, builtin, hs, hx, hrun, Result.andThen]
    exact h v w hr ⟨rfl, rfl, rfl, Nat.le_refl _, fun _ _ _ => rfl⟩ (hsome hr id)
  · refine wp_append_own w s x t ho base 5 i (.int .u8 0) 1 1 ht hi hz hsize hby rfl (by decide) v n xs hs hown y 0 cap [] hx rfl (by intro j u hj; simp at hj) (by simp) (by unfold maxLen; simp at h63; omega) (by simp at h63; omega) hbase ?_
    intro v' w' hr hg hn
    exact h v' w' (by simpa using hr) hg (hsome (by simpa using hr) (fun e => (hn.1 e).1))
  · refine wp_append_own w s x t ho base 5 i (.int .u8 0) 1 1 ht hi hz hsize hby rfl (by decide) v n xs hs hown ⟨blk, off, none⟩ zs.length cap (cellsU zs) hx (by simp) (bytes_cells hb) (cellsU_one zs) (by unfold maxLen; omega) (by omega) hbase ?_
    intro v' w' hr hg hn
    exact h v' w' hr hg (hsome hr (fun e => (hn.1 e).1))
theorem wpList_append_scr_want {P : Program} {w : World} {ops : Array Oper} {rest : List Oper} {o : Oper} {a : Act} {Q : Exit → Act → World → Prop} (hw : Region.wanted o (yielded ops a.tmps) = true) (s x : Operand) (t : TypeId)
    (ho : o.op = .call { callee := .builtin .append, args := #[s, x], argTypes := #[t, t] })
    (base : Nat) (i : TypeInfo) (ht : P.underlying t = some (.slice 5)) (hi : P.info? 5 = some i) (hz : i.zero = some (.int .u8 0)) (hsize : i.size = 1) (hby : i.bytes = 1)
    (v : Value) (n : Nat) (xs : List Value) (hs : a.eval s = v) (hown : w.ownsRow base 5 1 v n xs) (sv : Value) (zs : List Int) (hx : a.eval x = sv) (hsv : Scr sv zs w)
    (h63 : n + zs.length ≤ 140737488351232) (hbase : base ≤ w.heap.size)
    (h : ∀ v' w', w'.ownsRow base 5 1 v' (n + zs.length) (xs ++ cellsU zs) → w.grownBy w' v.ownBlock → (v = .slice none 0 0 ∨ ∃ g c, v' = .slice (some ⟨g, 0, none⟩) (n + zs.length) c) → wpList P ops Q rest (a.put o.dst v') w') : wpList P ops Q (o :: rest) a w := by
  show if Region.wanted o (yielded ops a.tmps) then _ else _
  rw [if_pos hw]
  exact .inl (wp_append_scr s x t ho base i ht hi hz hsize hby v n xs hs hown sv zs hx hsv h63 hbase h)
end Go.Proofs.Ytepbjjddpfejnaa
