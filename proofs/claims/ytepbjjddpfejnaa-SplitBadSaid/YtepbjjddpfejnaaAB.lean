/-
  Contract of split.Put at one record in memory, by what wire's Put answers; no other condition.
-/
import Derived.Test.YtepbjjddpfejnaaAA
namespace Go.Proofs.Ytepbjjddpfejnaa
open Go.ChangeShapes Go.WideShapes Go.ChangeAt Go.RowKit
set_option linter.unusedVariables false
set_option linter.unusedSimpArgs false
theorem Try.info22 : (Try.prog.info? 22).map (fun i => (i.zero, i.size, i.bytes)) = some (some (.slice none 0 0), 1, 24) := by kernel_rfl
theorem scr_of_row {W : World} {base g c : Nat} {zs : List Int} (h : W.ownsRow base 5 1 (.slice (some ⟨g, 0, none⟩) zs.length c) zs.length (cellsU zs)) (hz : ∀ z ∈ zs, isByte z) : Scr (.slice (some ⟨g, 0, none⟩) zs.length c) zs W := by
  refine .inr (.inr ⟨g, 0, c, rfl, ?_, (h.lt g rfl).2, fun i hi => ?_, hz⟩)
  · rcases h.2 with ⟨e, _⟩ | ⟨g', cap', cur, e, _, _, hn, _⟩
    · cases e
    · cases e; exact hn
  · rw [Nat.zero_add, h.cellAt i (by simpa using hi)]
    simp [cellsU, hi]
set_option maxRecDepth 100000 in
set_option maxHeartbeats 2000000 in
theorem put_one (B cap : Nat) (r : Rc) (bs : List Int) (hbl : bs.length ≤ 255) (hbb : ∀ z ∈ bs, isByte z) (w : World) (hB : B < w.heap.size) (hC : ∀ j u, r.cells[j]? = some u → w.cell? ⟨B, j, none⟩ = some u)
    (hP : ∀ w, Calls Try.prog 26 #[r.v] w (PutDone bs.length bs w)) :
    Calls Try.prog 16 #[.slice (some ⟨B, 0, none⟩) 1 cap] w fun e w' => ∃ v, e = .returned (.tuple #[v, .int .i64 0]) ∧ w'.ownsRow w.heap.size 5 1 v (bs.length + 1) (cellsU ((bs.length : Int) :: bs)) ∧ Below w.heap.size w w' := by
  obtain ⟨i0, hi, hz0, hz1, hz2⟩ := info_parts Try.info22
  have hi := Lib.hid hi
  have HP := Lib.hid hP
  clear hP
  go_enter Try.func16, Try.ntmps16
  go_wp2_with fail
  refine wp_scope_jumps 0 (fun _ _ => False) (fun _ _ => 0) rfl ?_ ?_
  · go_wp2_with fail
    go_loopw [4, 11] (fun v t wr => Below w.heap.size w wr ∧ ((t = .int .i64 0 ∧ v = .slice none 0 0) ∨ (t = .int .i64 1 ∧ ∃ g c g' c', v = .slice (some ⟨g, 0, none⟩) 1 c ∧ wr.ownsRow w.heap.size 22 1 (.slice (some ⟨g, 0, none⟩) 1 c) 1 [.slice (some ⟨g', 0, none⟩) bs.length c'] ∧ wr.ownsRow w.heap.size 5 1 (.slice (some ⟨g', 0, none⟩) bs.length c') bs.length (cellsU bs)))) (fun _ t _ => 1 - (intOf t).toNat)
    case atStart => exact ⟨Below.refl _ _, .inl ⟨rfl, rfl⟩⟩
    case round =>
      obtain ⟨hb, ⟨rfl, rfl⟩ | ⟨rfl, g, c, g', c', rfl, hr, hs⟩⟩ := hrel
      · have k0 := bcell hb hB (hC 0 _ rfl)
        have k1 := bcell hb hB (hC 1 _ rfl)
        have k2 := bcell hb hB (hC 2 _ rfl)
        have k3 := bcell hb hB (hC 3 _ rfl)
        have k4 := bcell hb hB (hC 4 _ rfl)
        have k5 := bcell hb hB (hC 5 _ rfl)
        have k6 := bcell hb hB (hC 6 _ rfl)
        have k7 := bcell hb hB (hC 7 _ rfl)
        go_wp2_with fail
        refine (HP.out _).mono ?_
        rintro e w2 ⟨g', rfl, ho, hb2⟩
        have hb3 : Below w.heap.size w w2 := (hb.alloc hb.size _).trans (hb2.mono (by have := hb.size; simp; omega))
        have ho2 : w2.ownsRow w.heap.size 5 1 (.slice (some ⟨g', 0, none⟩) bs.length bs.length) bs.length (cellsU bs) := row_base ho (by have := hb.size; simp; omega)
        clear ho hb2 k0 k1 k2 k3 k4 k5 k6 k7
        go_wp2_with (at_builtin; refine wpList_append_own _ rfl _ _ 26 rfl w.heap.size 22 i0 (.slice none 0 0) 1 24 Try.underlying26 hi.out hz0 hz1 hz2 rfl (by decide) _ 0 [] rfl (World.ownsRow_nil _ _ _ _) ⟨w2.heap.size, 0, none⟩ 1 1 [.slice (some ⟨g', 0, none⟩) bs.length bs.length] rfl rfl (cell_one_new _ _ _) (by simp [Value.oneCell']) (by unfold maxLen; omega) (by omega) (by have := hb3.size; simp; omega) ?_; intro v1 w3 hown3 hgrow3 hnil; obtain ⟨g1, cap1, rfl⟩ := ownsRow_succ hown3)
        refine ⟨⟨(hb3.alloc hb3.size _).grown hgrow3 (by have := hb3.size; simp; omega) (fun j e => by cases e), .inr ⟨by go_num, g1, cap1, g', bs.length, rfl, hown3, row_kept (ho2.alloc _) hgrow3 (fun r e => by cases e)⟩⟩, by simp [intOf]⟩
      · go_wp2_with fail
        have hR : RowsAt (.slice (some ⟨g, 0, none⟩) 1 c) [(.slice (some ⟨g', 0, none⟩) bs.length c', bs)] wr := by
          refine ⟨.inr ⟨g, 0, c, rfl, (hr.lt g rfl).2, fun i x hx => ?_⟩, fun x hx => ?_⟩
          · match i, hx with
            | 0, hx => cases hx; rw [hr.cellAt 0 (by omega)]; rfl
          · obtain rfl := List.mem_singleton.1 hx
            exact scr_of_row hs hbb
        refine (join_any _ _ wr hR (by simp)).mono ?_
        rintro e w4 ⟨hb4, ⟨_, v, rfl, ho4⟩ | ⟨hn, _⟩⟩
        · have hb5 := hb.trans (hb4.mono hb.size)
          have ho5 := row_base ho4 hb.size
          have hj : joinL [((.slice (some ⟨g', 0, none⟩) bs.length c' : Value), bs)] = (bs.length : Int) :: bs := by simp [joinL, joinTo]
          rw [hj] at ho5
          go_wp2
          rw [jump_ret]
          exact bodyPost_ret (v := .tuple #[v, .int .i64 0]) (by simp [results, Try.results16, go_sem]) rfl ⟨v, rfl, ho5, hb5⟩
        · exact absurd (fun x hx => by obtain rfl := List.mem_singleton.1 hx; exact hbl) hn
  · intro a' w' h; exact h.elim
end Go.Proofs.Ytepbjjddpfejnaa
