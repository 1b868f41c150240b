/-
  Contracts of the law's same and of the document's own Pieces at equal bytes, at equal pieces; no other condition.
-/
import Derived.Test.YtepbjjddpfejnaaAB
import Derived.Laws.BytesArg
namespace Go.Proofs.Ytepbjjddpfejnaa
open Go.ChangeShapes Go.WideShapes Go.ChangeAt Go.RowKit
set_option linter.unusedVariables false
set_option linter.unusedSimpArgs false
theorem conv_scr {s : Value} {zs : List Int} {w : World} (h : Scr s zs w) : (convert 22 9 s).run Try.prog w = .ok (.string (strOfNums zs)) w := by
  rcases h with ⟨rfl, rfl⟩ | ⟨x, cap, rfl, rfl⟩ | ⟨blk, off, cap, rfl, hcap, hb⟩
  · exact run_convert_bytes_nil w 22 5 Try.underlying22 Try.underlying5 0 0 9 Try.underlying9
  · have hl : (loadCells x 0).run Try.prog w = .ok (([] : List Int).map (Value.int .u8)).toArray w := run_loadCells_list (P := Try.prog) w x [] (fun j v hj => by simp at hj)
    rw [run_convert_bytes_string w 22 9 5 (some x) 0 cap Try.underlying22 Try.underlying5 Try.underlying9, run_bytesToString w x 0 cap [] hl]
    rfl
  · exact run_convert_bytes_arg w 22 5 Try.underlying22 Try.underlying5 blk off zs.length cap zs rfl (fun i hi => by
      rw [hb.2.1 i hi]
      simp) 9 Try.underlying9
theorem lawSame_yes (s t : Value) (zs : List Int) (w : World) (hs : Scr s zs w) (ht : Scr t zs w) :
    Calls Try.prog 8 #[s, t] w fun e w' => e = .returned (.bool true) ∧ w = w' := by
  have c1 := conv_scr hs
  have c2 := conv_scr ht
  obtain ⟨a1, n1, rfl⟩ := hs.shape
  obtain ⟨a2, n2, rfl⟩ := ht.shape
  clear hs ht
  generalize zs.length = n at *
  generalize strOfNums zs = S at *
  go_enter Try.func8, Try.ntmps8
  go_wp2
  go_ret
  exact ⟨rfl, rfl⟩
theorem pcCells_at {L : List (Pc × Value)} {i : Nat} {x : Pc × Value} (h : L[i]? = some x) : (pcCells L)[i * 3]? = some (.int .i64 x.1.at_) ∧ (pcCells L)[i * 3 + 1]? = some x.2 ∧ (pcCells L)[i * 3 + 2]? = some (.bool x.1.cut) := by
  induction L generalizing i with
  | nil => simp at h
  | cons y r ih =>
    have e : pcCells (y :: r) = [.int .i64 y.1.at_, y.2, .bool y.1.cut] ++ pcCells r := by simp [pcCells]
    rw [e]
    cases i with
    | zero => simp at h; subst h; simp
    | succ i =>
      have := ih (i := i) (by simpa using h)
      rw [show (i + 1) * 3 = i * 3 + 3 by omega]
      simpa using this
/-- A piece of a row: its cells, and its bytes. -/
theorem pcs_cell {W : World} {base g n c i : Nat} {L : List (Pc × Value)} (h : PcsL base (.slice (some ⟨g, 0, none⟩) n c) L W) (hi : i < L.length) :
    ∃ p s, L[i]? = some (p, s) ∧ W.cell? ⟨g, i * 3, none⟩ = some (.int .i64 p.at_) ∧ W.cell? ⟨g, i * 3 + 1, none⟩ = some s ∧ W.cell? ⟨g, i * 3 + 2, none⟩ = some (.bool p.cut) ∧ W.ownsRow base 5 1 s p.bytes.length (cellsU p.bytes) := by
  obtain ⟨⟨p, s⟩, hx⟩ : ∃ x, L[i]? = some x := ⟨_, List.getElem?_eq_getElem hi⟩
  obtain ⟨h0, h1, h2⟩ := pcCells_at hx
  have hr := h.1
  have hn : n = L.length := by
    rcases hr.2 with ⟨e, _⟩ | ⟨g', c', cur, e, _⟩
    · cases e
    · cases e; rfl
  subst hn
  refine ⟨p, s, hx, ?_, ?_, ?_, h.2 _ (List.mem_of_getElem? hx)⟩
  · rw [hr.cellAt _ (by omega), h0]
  · rw [hr.cellAt _ (by omega), h1]
  · rw [hr.cellAt _ (by omega), h2]
theorem scr_of_own {W : World} {base : Nat} {v : Value} {zs : List Int} (h : W.ownsRow base 5 1 v zs.length (cellsU zs)) (hz : ∀ z ∈ zs, isByte z) : Scr v zs W := by
  rcases h.2 with ⟨rfl, h0⟩ | ⟨g, cap, cur, rfl, _⟩
  · exact .inl ⟨rfl, List.eq_nil_of_length_eq_zero h0⟩
  · exact scr_of_row h hz
/-- The bytes of pieces are bytes. -/
def PcBytes (ps : List Pc) : Prop := ∀ p ∈ ps, ∀ z ∈ p.bytes, isByte z
theorem pcs_shape {W : World} {base : Nat} {v : Value} {L : List (Pc × Value)} (h : PcsL base v L W) : v = .slice none 0 0 ∧ L = [] ∨ ∃ g c, v = .slice (some ⟨g, 0, none⟩) L.length c := by
  rcases h.1.2 with ⟨rfl, h0⟩ | ⟨g, cap, cur, rfl, _⟩
  · exact .inl ⟨rfl, List.eq_nil_of_length_eq_zero h0⟩
  · exact .inr ⟨g, cap, rfl⟩
set_option maxRecDepth 100000 in
set_option maxHeartbeats 2000000 in
theorem pieces_same_some (b1 b2 g1 c1 g2 c2 n : Nat) (L M : List (Pc × Value)) (w : World) (h1 : PcsL b1 (.slice (some ⟨g1, 0, none⟩) n c1) L w) (h2 : PcsL b2 (.slice (some ⟨g2, 0, none⟩) n c2) M w) (hL : L.length = n) (hM : M.length = n) (he : L.map (·.1) = M.map (·.1)) (hb : PcBytes (L.map (·.1))) (hn : n ≤ 4000) :
    Calls Try.prog 11 #[.slice (some ⟨g1, 0, none⟩) n c1, .slice (some ⟨g2, 0, none⟩) n c2] w fun e w' => e = .returned (.bool true) ∧ Below w.heap.size w w' := by
  go_enter Try.func11, Try.ntmps11
  go_wp2
  go_loopw [5] (fun t wr => ∃ i : Nat, i ≤ n ∧ t = .int .i64 i ∧ ∃ m, wr = w.drewN m) (fun t _ => n - (intOf t).toNat)
  case atStart => exact ⟨0, Nat.zero_le _, rfl, 0, rfl⟩
  case round =>
    obtain ⟨i, hi, rfl, m, rfl⟩ := hrel
    by_cases hlt : i < n
    · obtain ⟨p, s, hx, k0, k1, k2, hs⟩ := pcs_cell h1 (i := i) (by omega)
      obtain ⟨q, t, hy, l0, l1, l2, ht⟩ := pcs_cell h2 (i := i) (by omega)
      have hpq : p = q := by
        have e1 : (L.map (·.1))[i]? = some p := by simp [hx]
        have e2 : (M.map (·.1))[i]? = some q := by simp [hy]
        rw [he, e2] at e1
        exact (Option.some.inj e1).symm
      subst hpq
      have hpb : ∀ z ∈ p.bytes, isByte z := hb p (List.mem_map.2 ⟨(p, s), List.mem_of_getElem? hx, rfl⟩)
      have hs' := scr_of_own hs hpb
      have ht' := scr_of_own ht hpb
      have cs : ∀ m, (convert 22 9 s).run Try.prog (w.drewN m) = .ok (.string (strOfNums p.bytes)) (w.drewN m) := fun m => conv_scr (hs'.later ⟨rfl, rfl, rfl, Nat.le_refl _, fun _ _ => rfl⟩)
      have ct : ∀ m, (convert 22 9 t).run Try.prog (w.drewN m) = .ok (.string (strOfNums p.bytes)) (w.drewN m) := fun m => conv_scr (ht'.later ⟨rfl, rfl, rfl, Nat.le_refl _, fun _ _ => rfl⟩)
      obtain ⟨a1, n1, rfl⟩ := hs'.shape
      obtain ⟨a2, n2, rfl⟩ := ht'.shape
      have hlti : (i : Int) < n := by omega
      clear hs ht hs' ht' hx hy
      generalize strOfNums p.bytes = S at *
      generalize p.bytes.length = pl at *
      go_wp2_with fail
      go_quiet (fail)
      go_wp2
      exact ⟨⟨i + 1, by omega, by go_num, m + nq, by simp [World.drewN, Nat.add_assoc]⟩, by simp [intOf]; omega⟩
    · obtain rfl : i = n := by omega
      go_wp2
      go_ret
      exact ⟨rfl, ⟨rfl, rfl, rfl, Nat.le_refl _, fun _ _ => rfl⟩⟩
set_option maxRecDepth 100000 in
set_option maxHeartbeats 2000000 in
theorem pieces_same_none (a b : Option Addr) (c d : Nat) (w : World) : Calls Try.prog 11 #[.slice a 0 c, .slice b 0 d] w fun e w' => e = .returned (.bool true) ∧ Below w.heap.size w w' := by
  go_enter Try.func11, Try.ntmps11
  go_wp2
  go_loopw [5] (fun t wr => t = .int .i64 0 ∧ wr = w) (fun t _ => 0 - (intOf t).toNat)
  case atStart => exact ⟨rfl, rfl⟩
  case round =>
    obtain ⟨rfl, rfl⟩ := hrel
    go_wp2
    go_ret
    exact ⟨rfl, Below.refl _ _⟩
theorem pieces_same (b1 b2 : Nat) (u v : Value) (ps : List Pc) (w : World) (h1 : PcsAt b1 u ps w) (h2 : PcsAt b2 v ps w) (hb : PcBytes ps) (hn : ps.length ≤ 4000) :
    Calls Try.prog 11 #[u, v] w fun e w' => e = .returned (.bool true) ∧ Below w.heap.size w w' := by
  obtain ⟨L, rfl, hL⟩ := h1
  obtain ⟨M, hM, h2⟩ := h2
  have hlen : M.length = L.length := by have := congrArg List.length hM; simpa using this
  have hu : ∃ a c, u = .slice a L.length c := by
    rcases pcs_shape hL with ⟨rfl, rfl⟩ | ⟨g1, c1, rfl⟩
    · exact ⟨_, _, rfl⟩
    · exact ⟨_, _, rfl⟩
  have hv : ∃ a c, v = .slice a L.length c := by
    rcases pcs_shape h2 with ⟨rfl, rfl⟩ | ⟨g1, c1, rfl⟩
    · rw [← hlen]; exact ⟨_, _, rfl⟩
    · rw [hlen]; exact ⟨_, _, rfl⟩
  by_cases h0 : L.length = 0
  · obtain ⟨a, c, rfl⟩ := hu
    obtain ⟨b, d, rfl⟩ := hv
    rw [h0]
    exact pieces_same_none _ _ _ _ w
  rcases pcs_shape hL with ⟨_, rfl⟩ | ⟨g1, c1, rfl⟩
  · exact absurd rfl h0
  rcases pcs_shape h2 with ⟨_, rfl⟩ | ⟨g2, c2, rfl⟩
  · exact absurd hlen.symm h0
  rw [hlen] at h2 ⊢
  exact pieces_same_some b1 b2 g1 c1 g2 c2 L.length L M w hL h2 rfl hlen hM.symm hb (by simpa using hn)
end Go.Proofs.Ytepbjjddpfejnaa
