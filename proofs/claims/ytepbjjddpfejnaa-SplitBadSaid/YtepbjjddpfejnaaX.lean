/-
  Contract of split.Join at every row of bytes in memory: their script, or ErrArg where one has more than 255; condition: at most 4000 of them.
-/
import Derived.Test.YtepbjjddpfejnaaW
import Derived.Laws.AppendOwnNone
namespace Go.Proofs.Ytepbjjddpfejnaa
open Go.ChangeShapes Go.WideShapes Go.ChangeAt Go.RowKit
set_option linter.unusedVariables false
set_option linter.unusedSimpArgs false
theorem add_at (blk off j : Nat) : (⟨blk, off, none⟩ : Addr).add j = ⟨blk, off + j, none⟩ := by
  unfold Addr.add
  split
  · simp_all
  · rfl
theorem bytes_cells {blk off : Nat} {zs : List Int} {w : World} (h : BytesAt blk off zs w) : ∀ j u, (cellsU zs)[j]? = some u → w.cell? ((⟨blk, off, none⟩ : Addr).add j) = some u := by
  intro j u hj
  have hlt : j < zs.length := by simpa using (List.getElem?_eq_some_iff.1 hj).1
  rw [add_at, h.2.1 j hlt, ← hj]
  simp [cellsU, hlt]
/-- 'append(s, b...)' of bytes in memory, nil or not, to a row of one's own. -/
theorem wpList_append_scr {P : Program} {w : World} {ops : Array Oper} {rest : List Oper} {o : Oper} {a : Act} {Q : Exit → Act → World → Prop} (hgd : o.guard = none) (s x : Operand) (t : TypeId)
    (ho : o.op = .call { callee := .builtin .append, args := #[s, x], argTypes := #[t, t] })
    (base : Nat) (i : TypeInfo) (ht : P.underlying t = some (.slice 5)) (hi : P.info? 5 = some i) (hz : i.zero = some (.int .u8 0)) (hsize : i.size = 1) (hby : i.bytes = 1)
    (v : Value) (n : Nat) (xs : List Value) (hs : a.eval s = v) (hown : w.ownsRow base 5 1 v n xs) (sv : Value) (zs : List Int) (hx : a.eval x = sv) (hsv : Scr sv zs w)
    (h63 : n + zs.length ≤ 140737488351232) (hbase : base ≤ w.heap.size)
    (h : ∀ v' w', w'.ownsRow base 5 1 v' (n + zs.length) (xs ++ cellsU zs) → w.grownBy w' v.ownBlock → (v = .slice none 0 0 ∨ ∃ g c, v' = .slice (some ⟨g, 0, none⟩) (n + zs.length) c) → wpList P ops Q rest (a.put o.dst v') w') : wpList P ops Q (o :: rest) a w := by
  have hsome : ∀ {v' : Value} {w' : World}, w'.ownsRow base 5 1 v' (n + zs.length) (xs ++ cellsU zs) → (v' = .slice none 0 0 → v = .slice none 0 0) → (v = .slice none 0 0 ∨ ∃ g c, v' = .slice (some ⟨g, 0, none⟩) (n + zs.length) c) := fun hr hn => by
    rcases hr.2 with ⟨e, _⟩ | ⟨g, c, _, e, _⟩
    · exact .inl (hn e)
    · exact .inr ⟨g, c, e⟩
  rcases hsv with ⟨rfl, rfl⟩ | ⟨y, cap, rfl, rfl⟩ | ⟨blk, off, cap, rfl, hcap, hb⟩
  · refine wpList_append_own_none hgd s x t ho base 5 i 1 ht hi v n xs hs hown hx ?_
    have e : n + ([] : List Int).length = n := by simp
    have hr : w.ownsRow base 5 1 v (n + ([] : List Int).length) (xs ++ cellsU []) := by simpa using hown
    exact h v w hr ⟨rfl, rfl, rfl, Nat.le_refl _, fun _ _ _ => rfl⟩ (hsome hr id)
  · refine wpList_append_own w hgd s x t ho base 5 i (.int .u8 0) 1 1 ht hi hz hsize hby rfl (by decide) v n xs hs hown y 0 cap [] hx rfl (by intro j u hj; simp at hj) (by simp) (by unfold maxLen; simp at h63; omega) (by simp at h63; omega) hbase ?_
    intro v' w' hr hg hn
    exact h v' w' (by simpa using hr) hg (hsome (by simpa using hr) (fun e => (hn.1 e).1))
  · refine wpList_append_own w hgd s x t ho base 5 i (.int .u8 0) 1 1 ht hi hz hsize hby rfl (by decide) v n xs hs hown ⟨blk, off, none⟩ zs.length cap (cellsU zs) hx (by simp) (bytes_cells hb) (cellsU_one zs) (by unfold maxLen; omega) (by omega) hbase ?_
    intro v' w' hr hg hn
    exact h v' w' hr hg (hsome hr (fun e => (hn.1 e).1))
/-- Many bytes: their slices, and what these are. -/
abbrev LP := List (Value × List Int)
/-- The slices LL lie in the row s. -/
def RowsAt (s : Value) (LL : LP) (w : World) : Prop :=
  ((∃ a cap, s = .slice a 0 cap ∧ LL = []) ∨ ∃ blk off cap, s = .slice (some ⟨blk, off, none⟩) LL.length cap ∧ blk < w.heap.size ∧ ∀ i x, LL[i]? = some x → w.cell? ⟨blk, off + i, none⟩ = some x.1) ∧ ∀ x ∈ LL, Scr x.1 x.2 w
theorem RowsAt.later {s : Value} {LL : LP} {w w' : World} (h : RowsAt s LL w) (hb : Below w.heap.size w w') : RowsAt s LL w' := by
  refine ⟨?_, fun x hx => (h.2 x hx).later hb⟩
  rcases h.1 with h | ⟨blk, off, cap, h1, h2, h3⟩
  · exact .inl h
  · exact .inr ⟨blk, off, cap, h1, beyond hb h2, fun i x hx => bcell hb h2 (h3 i x hx)⟩
/-- The script of the first k. -/
def joinTo (LL : LP) (k : Nat) : List Int := (LL.take k).flatMap fun x => (x.2.length : Int) :: x.2
def joinL (LL : LP) : List Int := joinTo LL LL.length
def allFit (LL : LP) : Prop := ∀ x ∈ LL, x.2.length ≤ 255
theorem joinTo_succ {LL : LP} {k : Nat} {x : Value × List Int} (h : LL[k]? = some x) : joinTo LL (k + 1) = joinTo LL k ++ [(x.2.length : Int)] ++ x.2 := by
  obtain ⟨hk, rfl⟩ := List.getElem?_eq_some_iff.1 h
  unfold joinTo
  rw [List.take_succ_eq_append_getElem hk, List.flatMap_append]
  simp
theorem Scr.shape {s : Value} {zs : List Int} {w : World} (h : Scr s zs w) : ∃ a c, s = .slice a zs.length c := by
  rcases h with ⟨rfl, rfl⟩ | ⟨x, cap, rfl, rfl⟩ | ⟨blk, off, cap, rfl, _, _⟩
  · exact ⟨_, _, rfl⟩
  · exact ⟨_, _, rfl⟩
  · exact ⟨_, _, rfl⟩
theorem conv_len (n : Nat) (h : n ≤ 255) (w : World) : (convert 3 5 (.int .i64 n)).run Try.prog w = .ok (.int .u8 n) w := by
  have hk : Try.prog.intKind 5 = .u8 := by kernel_rfl
  have e := run_convert_int (P := Try.prog) w 3 5 .i64 n (by rw [Try.underlying3]; rfl) (by rw [hk]; exact Try.underlying5)
  rw [hk] at e
  rw [e, show IntKind.u8.wrap (n : Int) = n from by simp [IntKind.wrap, IntKind.signed, IntKind.bits]; omega]
/-- What Join answers. -/
def JoinIs (LL : LP) (w : World) (e : Ending) (w' : World) : Prop :=
  Below w.heap.size w w' ∧ ((allFit LL ∧ ∃ v, e = .returned (.tuple #[v, .int .i64 0]) ∧ w'.ownsRow w.heap.size 5 1 v (joinL LL).length (cellsU (joinL LL))) ∨ (¬ allFit LL ∧ e = .returned (.tuple #[.slice none 0 0, .int .i64 2])))
set_option maxRecDepth 100000 in
set_option maxHeartbeats 1000000 in
theorem join_some (blk off cap : Nat) (LL : LP) (w : World) (hB : blk < w.heap.size) (hC : ∀ i x, LL[i]? = some x → w.cell? ⟨blk, off + i, none⟩ = some x.1) (hS : ∀ x ∈ LL, Scr x.1 x.2 w) (hl : LL.length ≤ 4000) :
    Calls Try.prog 9 #[.slice (some ⟨blk, off, none⟩) LL.length cap] w (JoinIs LL w) := by
  obtain ⟨i0, hi, hz0, hz1, hz2⟩ := info_parts Try.info5
  have hi := Lib.hid hi
  go_enter Try.func9, Try.ntmps9
  go_wp2_with fail
  refine wp_scope_jumps 0 (fun a' w' => ¬ allFit LL ∧ Below w.heap.size w w' ∧ a'.defers = [] ∧ ∃ s0 s1 s2 s3 s4 s5 s6 s7 s8 s9 s10 s11 s12 s13 s14 s15 s16 s17 s18 s19 s20 s21 s22 s23 s24 s25 s26, a'.tmps = #[s0, s1, s2, s3, s4, s5, s6, s7, s8, s9, s10, s11, s12, s13, s14, s15, s16, s17, s18, s19, s20, s21, s22, s23, s24, s25, s26]) (fun _ _ => 0) rfl ?_ ?_
  · go_wp2
    go_loopw [4, 9] (fun v t wr => ∃ k : Nat, k ≤ LL.length ∧ t = .int .i64 k ∧ (∀ i x, i < k → LL[i]? = some x → x.2.length ≤ 255) ∧ (joinTo LL k).length ≤ 256 * k ∧ wr.ownsRow w.heap.size 5 1 v (joinTo LL k).length (cellsU (joinTo LL k)) ∧ Below w.heap.size w wr) (fun v t _ => LL.length - (intOf t).toNat)
    case atStart => exact ⟨0, Nat.zero_le _, rfl, fun i x hi => by omega, by simp [joinTo], World.ownsRow_nil _ _ _ _, Below.refl _ _⟩
    case round =>
      obtain ⟨k, hk, rfl, hfit, hjl, hown, hb⟩ := hrel
      by_cases hlt : k < LL.length
      · obtain ⟨⟨sv, zs⟩, hx⟩ : ∃ x, LL[k]? = some x := ⟨_, List.getElem?_eq_getElem hlt⟩
        have hs : Scr sv zs w := hS _ (List.mem_of_getElem? hx)
        have hcell : wr.cell? ⟨blk, off + k, none⟩ = some sv := bcell hb hB (hC k _ hx)
        have HJ : Hid (joinTo LL (k + 1) = joinTo LL k ++ [(zs.length : Int)] ++ zs) := joinTo_succ hx
        have hki : (k : Int) < LL.length := by omega
        obtain ⟨a', c', rfl⟩ := Scr.shape hs
        by_cases hf : zs.length ≤ 255
        · have hcv := conv_len zs.length hf
          have hf2 : ¬ (255 : Int) < zs.length := by omega
          go_wp2_with (first | (at_builtin; refine wpList_append_own _ rfl _ _ 22 rfl w.heap.size 5 i0 (.int .u8 0) 1 1 Try.underlying22 hi.out hz0 hz1 hz2 rfl (by decide) _ _ _ rfl (hown.alloc _) ⟨wr.heap.size, 0, none⟩ 1 1 [.int .u8 zs.length] rfl rfl (cell_one_new _ _ _) (by simp [Value.oneCell']) (by unfold maxLen; omega) (by omega) (by have := hb.size; simp; omega) ?_; intro v1 w1 hown1 hgrow1 hnil1; obtain ⟨g1, cap1, rfl⟩ := ownsRow_succ hown1; have hb1 := (hb.alloc hb.size _).grown hgrow1 (by have := hb.size; simp; omega) (fun j e => (hown.lt j e).1); have hs1 := hs.later hb1) | (at_builtin; refine wpList_append_scr rfl _ _ 22 rfl w.heap.size i0 Try.underlying22 hi.out hz0 hz1 hz2 _ _ _ rfl hown1 _ zs rfl hs1 (by omega) hb1.size ?_; intro v2 w2 hown2 hgrow2 hsome2; obtain ⟨g2, cap2, rfl⟩ : ∃ g c, v2 = .slice (some ⟨g, 0, none⟩) ((joinTo LL k).length + 1 + zs.length) c := hsome2.resolve_left (fun e => by cases e); have hb2 := hb1.grown hgrow2 hb1.size (fun j e => (hown1.lt j e).1)))
          refine ⟨⟨k + 1, by omega, by go_num, ?_, ?_, ?_, hb2⟩, by simp [intOf]; omega⟩
          · intro i x hi hx'
            rcases Nat.lt_or_ge i k with h | h
            · exact hfit i x h hx'
            · obtain rfl : i = k := by omega
              rw [hx] at hx'
              cases hx'
              exact hf
          · rw [HJ.out]; simp; omega
          · rw [HJ.out, List.length_append, List.length_append]
            have := hown2
            rw [cellsU, List.map_append, List.map_append]
            exact this
        · have hf2 : (255 : Int) < zs.length := by omega
          have hnf : ¬ allFit LL := fun h => hf (h _ (List.mem_of_getElem? hx))
          go_wp2
          go_step3
          exact ⟨rfl, hnf, hb, rfl, _, _, _, _, _, _, _, _, _, _, _, _, _, _, _, _, _, _, _, _, _, _, _, _, _, _, _, rfl⟩
      · obtain rfl : k = LL.length := by omega
        have hall : allFit LL := fun x hx => by
          obtain ⟨i, hi, rfl⟩ := List.getElem_of_mem hx
          exact hfit i _ hi (List.getElem?_eq_getElem hi)
        go_wp2
        rw [jump_ret]
        exact bodyPost_ret (v := .tuple #[u4, .int .i64 0]) (by simp [results, Try.results9, go_sem]) rfl ⟨hb, .inl ⟨hall, u4, rfl, hown⟩⟩
  · rintro ⟨t, d⟩ w2 ⟨hnf, hb, rfl, s0, s1, s2, s3, s4, s5, s6, s7, s8, s9, s10, s11, s12, s13, s14, s15, s16, s17, s18, s19, s20, s21, s22, s23, s24, s25, s26, rfl⟩
    go_wp2
    rw [jump_ret]
    exact bodyPost_ret (v := .tuple #[.slice none 0 0, .int .i64 2]) (by simp [results, Try.results9, go_sem]) rfl ⟨hb, .inr ⟨hnf, rfl⟩⟩
set_option maxRecDepth 100000 in
set_option maxHeartbeats 1000000 in
theorem join_none (a : Option Addr) (cap : Nat) (w : World) : Calls Try.prog 9 #[.slice a 0 cap] w fun e w' => e = .returned (.tuple #[.slice none 0 0, .int .i64 0]) ∧ Below w.heap.size w w' := by
  go_enter Try.func9, Try.ntmps9
  go_wp2_with fail
  refine wp_scope_jumps 0 (fun _ _ => False) (fun _ _ => 0) rfl ?_ ?_
  · go_wp2
    go_loopw [4, 9] (fun v t wr => v = .slice none 0 0 ∧ t = .int .i64 0 ∧ Below w.heap.size w wr) (fun v t _ => 0 - (intOf t).toNat)
    case atStart => exact ⟨rfl, rfl, Below.refl _ _⟩
    case round =>
      obtain ⟨rfl, rfl, hb⟩ := hrel
      go_wp2
      rw [jump_ret]
      exact bodyPost_ret (v := .tuple #[.slice none 0 0, .int .i64 0]) (by simp [results, Try.results9, go_sem]) rfl ⟨rfl, hb⟩
  · intro a' w' h
    exact h.elim
theorem join_any (s : Value) (LL : LP) (w : World) (h : RowsAt s LL w) (hl : LL.length ≤ 4000) : Calls Try.prog 9 #[s] w (JoinIs LL w) := by
  rcases h with ⟨⟨a, cap, rfl, rfl⟩ | ⟨blk, off, cap, rfl, hB, hC⟩, hS⟩
  · refine (join_none a cap w).mono ?_
    rintro e w' ⟨rfl, hb⟩
    exact ⟨hb, .inl ⟨fun x hx => (by cases hx), _, rfl, World.ownsRow_nil _ _ _ _⟩⟩
  · exact join_some blk off cap LL w hB hC hS hl
end Go.Proofs.Ytepbjjddpfejnaa
