/-
  What the document's own Take answers of any bytes in memory: just what wire's Take answers; condition: at most 1000 bytes.
-/
import Derived.Test.YtepbjjddpfejnaaAP
namespace Go.Proofs.Ytepbjjddpfejnaa
open Go.ChangeShapes Go.WideShapes Go.ChangeAt Go.RowKit
set_option linter.unusedVariables false
set_option linter.unusedSimpArgs false
theorem refTake_markIs (blk off c : Nat) (zs : List Int) (w : World) (h : BytesAt blk off zs w) (hl : zs.length = 8) (h0 : zs[0]?.getD 0 = 2) :
    RefTook (.slice (some ⟨blk, off, none⟩) 8 (8 + c)) (if okM zs = true then (markRc zs, (0 : Int)) else (noRc, 11)).1.v (if okM zs = true then (markRc zs, (0 : Int)) else (noRc, 11)).2 w := by
  have hs := one_bd h.2.2 1 (by omega)
  have ht := ck_bd h.2.2 2 6 (by omega)
  by_cases ho : okM zs = true
  · rw [if_pos ho]
    have c1 := upB_spec ho
    exact refTake_mark blk off c zs w h hl h0 (fun w => refRight_mark _ _ hs.1 hs.2 c1.1 c1.2 w)
  · rw [if_neg ho]
    have c1 : 1099511627776 < takeN (ck zs 2 6) := by
      have : ¬ (0 ≤ takeN (ck zs 2 6) ∧ takeN (ck zs 2 6) ≤ 1099511627776) := fun hh => ho (upB_yes hh.1 hh.2)
      omega
    exact refTake_mark_no blk off c zs w h hl h0 (fun w => refRight_mark_no _ _ hs.1 hs.2 ht.1 c1 w)
theorem refTake_eventIs (blk off c : Nat) (zs : List Int) (w : World) (h : BytesAt blk off zs w) (hl : zs.length = 20) (h0 : zs[0]?.getD 0 = 1) :
    RefTook (.slice (some ⟨blk, off, none⟩) 20 (20 + c)) (if okB zs = true then (evtRc zs, (0 : Int)) else (noRc, 11)).1.v (if okB zs = true then (evtRc zs, (0 : Int)) else (noRc, 11)).2 w := by
  have hs := one_bd h.2.2 7 (by omega)
  have h1 := ck_bd h.2.2 1 6 (by omega)
  have h3 := ck_bd h.2.2 8 3 (by omega)
  have h4 := one_bd h.2.2 11 (by omega)
  by_cases ho : okB zs = true
  · rw [if_pos ho]
    have hb' := ho
    unfold okB at hb'
    simp only [Bool.and_eq_true] at hb'
    obtain ⟨⟨⟨g1, g3⟩, g4⟩, g5, g6⟩ := hb'
    have c1 := upB_spec g1
    have c3 := upB_spec g3
    have c4 := upB_spec g4
    exact refTake_event blk off c zs w h hl h0 g5 g6 (fun w => refRight_event _ _ _ _ _ _ c1.1 c1.2 hs.1 hs.2 c3.1 c3.2 c4.1 (by omega) (refPoint_ok _ _ g5 g6) w)
  · rw [if_neg ho]
    cases hf : (inB (part32 (evV zs 5)) && inB (part32 (evV zs 6)))
    · exact refTake_far blk off c zs w h hl h0 hf
    · have hf' := hf
      simp only [Bool.and_eq_true] at hf'
      have hno : ¬ (evV zs 1 ≤ 1099511627776 ∧ evV zs 3 ≤ 1048576 ∧ evV zs 4 < 6) := fun hh => ho (by
        unfold okB
        have u1 : upB (evV zs 1) 1099511627776 = true := upB_yes h1.1 hh.1
        have u3 : upB (evV zs 3) 1048576 = true := upB_yes h3.1 hh.2.1
        have u4 : upB (evV zs 4) 5 = true := upB_yes h4.1 (by have := hh.2.2; omega)
        rw [hf, u1, u3, u4]
        rfl)
      exact refTake_event_no blk off c zs w h hl h0 hf'.1 hf'.2 (fun w => refRight_event_no _ _ _ _ _ _ h1.1 hs.1 hs.2 h3.1 h4.1 hno w)
theorem refTake_is (s : Value) (zs : List Int) (w : World) (h : Scr s zs w) (hlen : zs.length ≤ 1000) : RefTook s (takeOf zs).1.v (takeOf zs).2 w := by
  rcases h with ⟨rfl, rfl⟩ | ⟨x, cap, rfl, rfl⟩ | ⟨blk, off, cap, rfl, hcap, hb⟩
  · exact refTake_empty _ _ w
  · exact refTake_empty _ _ w
  · unfold takeOf
    by_cases h0 : zs.length = 0
    · rw [if_pos h0]
      have := refTake_empty (some ⟨blk, off, none⟩) cap w
      rw [h0]
      exact this
    · rw [if_neg h0]
      have hc : w.cell? ⟨blk, off, none⟩ = some (.int .u8 (zs[0]?.getD 0)) := hb.first (by omega)
      by_cases h1 : zs[0]?.getD 0 = 1
      · rw [if_pos h1]
        by_cases l1 : zs.length < 20
        · rw [if_pos l1]
          exact refTake_shortE blk off cap zs.length _ w hb.1 hc (by omega) h1 l1
        · rw [if_neg l1]
          by_cases l2 : 20 < zs.length
          · rw [if_pos l2]
            exact refTake_longE blk off cap zs.length _ w hb.1 hc (by omega) h1 l2 (by omega)
          · rw [if_neg l2]
            have hl : zs.length = 20 := by omega
            obtain ⟨c, rfl⟩ : ∃ c, cap = 20 + c := ⟨cap - 20, by omega⟩
            rw [hl]
            exact refTake_eventIs blk off c zs w hb hl h1
      · rw [if_neg h1]
        by_cases h2 : zs[0]?.getD 0 = 2
        · rw [if_pos h2]
          by_cases l1 : zs.length < 8
          · rw [if_pos l1]
            exact refTake_shortM blk off cap zs.length _ w hb.1 hc (by omega) h2 l1
          · rw [if_neg l1]
            by_cases l2 : 8 < zs.length
            · rw [if_pos l2]
              exact refTake_longM blk off cap zs.length _ w hb.1 hc (by omega) h2 l2 (by omega)
            · rw [if_neg l2]
              have hl : zs.length = 8 := by omega
              obtain ⟨c, rfl⟩ : ∃ c, cap = 8 + c := ⟨cap - 8, by omega⟩
              rw [hl]
              exact refTake_markIs blk off c zs w hb hl h2
        · rw [if_neg h2]
          exact refTake_kind blk off cap zs.length _ w hb.1 hc (by omega) (by simpa using h1) (by simpa using h2)
end Go.Proofs.Ytepbjjddpfejnaa
