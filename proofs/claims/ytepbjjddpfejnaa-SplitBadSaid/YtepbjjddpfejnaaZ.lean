/-
  What wire's Take and split's Rec answer of any bytes in memory; no other condition.
-/
import Derived.Test.YtepbjjddpfejnaaY
namespace Go.Proofs.Ytepbjjddpfejnaa
open Go.ChangeShapes Go.WideShapes Go.ChangeAt Go.RowKit
set_option linter.unusedVariables false
set_option linter.unusedSimpArgs false
/-- A record's numbers. -/
structure Rc where
  k : Int
  ts : Int
  src : Int
  seq : Int
  ek : Int
  p : Nat
  q : Nat
  rs : Int
  rt : Int
/-- A record, as a value. -/
abbrev Rc.v (r : Rc) : Value := RV r.k r.ts r.src r.seq r.ek r.p r.q r.rs r.rt
def noRc : Rc := ⟨0, 0, 0, 0, 0, 0, 0, 0, 0⟩
/-- The records that bytes tell. -/
def evtRc (zs : List Int) : Rc := ⟨1, evV zs 1, evV zs 2, evV zs 3, evV zs 4, floatOfInt .f64 (part32 (evV zs 5)), floatOfInt .f64 (part32 (evV zs 6)), 0, 0⟩
def markRc (zs : List Int) : Rc := ⟨2, 0, 0, 0, 0, 0, 0, takeN (ck zs 1 1), takeN (ck zs 2 6)⟩
def okM (zs : List Int) : Bool := upB (takeN (ck zs 2 6)) 1099511627776
/-- What Take answers. -/
def takeOf (zs : List Int) : Rc × Int :=
  if zs.length = 0 then (noRc, 50)
  else if zs[0]?.getD 0 = 1 then
    if zs.length < 20 then (noRc, 50) else if 20 < zs.length then (noRc, 11) else if okB zs = true then (evtRc zs, 0) else (noRc, 11)
  else if zs[0]?.getD 0 = 2 then
    if zs.length < 8 then (noRc, 50) else if 8 < zs.length then (noRc, 11) else if okM zs = true then (markRc zs, 0) else (noRc, 11)
  else (noRc, 11)
/-- A record and an error are told. -/
abbrev Told (x : Rc × Int) (w : World) (r : Ending) (w' : World) : Prop := r = .returned (.tuple #[x.1.v, .int .i64 x.2]) ∧ Below w.heap.size w w'
theorem take_is (s : Value) (zs : List Int) (w : World) (h : Scr s zs w) : Calls Try.prog 19 #[s] w (Told (takeOf zs) w) := by
  rcases h with ⟨rfl, rfl⟩ | ⟨x, cap, rfl, rfl⟩ | ⟨blk, off, cap, rfl, hcap, hb⟩
  · exact take_empty _ _ w
  · exact take_empty _ _ w
  · unfold takeOf
    by_cases h0 : zs.length = 0
    · rw [if_pos h0]
      have := take_empty (some ⟨blk, off, none⟩) cap w
      rw [h0]
      exact this
    · rw [if_neg h0]
      by_cases h1 : zs[0]?.getD 0 = 1
      · have hs : SizeIs (zs[0]?.getD 0) 20 := by rw [h1]; exact size_event
        rw [if_pos h1]
        by_cases l1 : zs.length < 20
        · rw [if_pos l1]
          exact take_short blk off cap zs 20 w hb (by omega) hs rfl (by omega)
        · rw [if_neg l1]
          by_cases l2 : 20 < zs.length
          · rw [if_pos l2]
            exact take_long blk off cap zs 20 w hb (by omega) hs rfl (by omega)
          · rw [if_neg l2]
            have hl : zs.length = 20 := by omega
            obtain ⟨c, rfl⟩ : ∃ c, cap = 20 + c := ⟨cap - 20, by omega⟩
            have := take_event blk off c zs w hb hl h1
            rw [hl]
            by_cases ho : okB zs = true
            · rw [if_pos ho]; exact this.1 ho
            · rw [if_neg ho]; exact this.2 (by simpa using ho)
      · rw [if_neg h1]
        by_cases h2 : zs[0]?.getD 0 = 2
        · have hs : SizeIs (zs[0]?.getD 0) 8 := by rw [h2]; exact size_mark
          rw [if_pos h2]
          by_cases l1 : zs.length < 8
          · rw [if_pos l1]
            exact take_short blk off cap zs 8 w hb (by omega) hs rfl (by omega)
          · rw [if_neg l1]
            by_cases l2 : 8 < zs.length
            · rw [if_pos l2]
              exact take_long blk off cap zs 8 w hb (by omega) hs rfl (by omega)
            · rw [if_neg l2]
              have hl : zs.length = 8 := by omega
              obtain ⟨c, rfl⟩ : ∃ c, cap = 8 + c := ⟨cap - 8, by omega⟩
              have := take_mark blk off c zs w hb hl h2
              rw [hl]
              by_cases ho : okM zs = true
              · rw [if_pos ho]; exact this.1 ho
              · rw [if_neg ho]; exact this.2 (by simpa [okM] using ho)
        · rw [if_neg h2]
          exact take_kind blk off cap zs w hb (by omega) (by simpa using h1) (by simpa using h2)
/-- What Rec answers. -/
def recOf (zs : List Int) (cut : Bool) : Rc × Int := if zs.length = 0 ∨ cut = true then (noRc, 11) else takeOf zs
theorem rec_is (at_ : Int) (s : Value) (zs : List Int) (cut : Bool) (w : World) (h : Scr s zs w) : Calls Try.prog 13 #[PV at_ s cut] w (Told (recOf zs cut) w) := by
  have hs := h
  obtain ⟨a, c, rfl⟩ := h.shape
  unfold recOf
  by_cases hb : zs.length = 0 ∨ cut = true
  · rw [if_pos hb]
    exact rec_bad at_ a zs.length c cut hb w
  · rw [if_neg hb]
    have hc : cut = false := by cases cut <;> simp_all
    subst hc
    have h0 : zs.length ≠ 0 := fun e => hb (.inl e)
    exact rec_good at_ a zs.length c h0 _ _ _ _ _ _ _ _ _ _ w (fun w' hw => take_is _ zs w' (hs.later hw))
end Go.Proofs.Ytepbjjddpfejnaa
