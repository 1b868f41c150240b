/-
  CheckTells' walk.
-/
import Derived.Test.YtmgkamljlgmmeaaCQ
import Derived.Deep.RegionHeld3
namespace Go.Proofs.Ytmgkamljlgmmeaa.Tree
open Go.ChangeShapes Go.WideShapes Go.ChangeAt Go.RowKit
set_option linter.unusedVariables false
set_option linter.unusedSimpArgs false
attribute [local go_sem] Oper.semAt_some
/-- What the law reads all along. -/
def TlK (w : World) (a : Option Addr) (n c : Nat) (win : Int) (L : List (Sp × Value)) (X : World) : Prop := PtIn w.heap.size a n c win L X ∧ Below w.heap.size w X
theorem TlK.later {w : World} {a : Option Addr} {n c : Nat} {win : Int} {L : List (Sp × Value)} {X Y : World} (h : TlK w a n c win L X) (hb : Below X.heap.size X Y) : TlK w a n c win L Y := ⟨h.1.later hb, kept_trans h.2 hb⟩
theorem TlK.all {w : World} {a : Option Addr} {n c : Nat} {win : Int} {L : List (Sp × Value)} {X : World} (h : TlK w a n c win L X) : (X.cell? ⟨w.heap.size, 0, none⟩ = some (.slice a n c) ∧ X.cell? ⟨w.heap.size, 1, none⟩ = some (.int .i64 win)) ∧ TlK w a n c win L X := ⟨⟨h.1.1.c0, h.1.1.c1⟩, h⟩
set_option maxRecDepth 100000 in
set_option maxHeartbeats 8000000 in
theorem tellsWalk (hwk : WakesC) (v : Value) (L : List (Sp × Value)) (win i : Int) (w : World) (h : SpsL w v L) (hl : L.length ≤ maxLen ∧ Roomy v) (hq : ∀ x ∈ L, InSp w x) (wi : (Lit.int .i64 i).wf = true) :
    Calls Try.prog 3 #[ptV v win, .int .i64 i] w fun e w' => e = .returned (.bool true) ∧ Below w.heap.size w w' := by
  have hb := kept_new w (.cells #[v, .int .i64 win] 24)
  have hG := great_W win _ hl.1 (h.later hb)
  have hW := Lib.hid hwk
  obtain ⟨n, hn⟩ : ∃ n, L.length = n := ⟨_, rfl⟩
  obtain ⟨a, c, rfl⟩ := h.lit hn
  have hp : TlK w a n c win L (w.alloc (.cells #[.slice a n c, .int .i64 win] 24)) := ⟨⟨PtBox.new w _ _, hn, h.later hb⟩, hb⟩
  have c0 := hp.1.1.c0
  have c1 := hp.1.1.c1
  obtain ⟨G, hg⟩ : ∃ G, great (L.map (·.1)) = G := ⟨_, rfl⟩
  rw [hg] at hG
  cases G with
  | true =>
    replace hG := Lib.hid hG
    replace hb := Lib.hid hb
    clear hp h hl hn hg hwk hq
    go_enter Try.func3, Try.ntmps3
    go_wp2_with (first
      | ((with_reducible refine hG.out.mono ?_); rintro e w2 ⟨rfl, hb2⟩)
      | ((with_reducible refine (hW.out _).mono ?_); rintro e w3 ⟨rfl, hb3⟩))
    go_ret
    exact ⟨rfl, kept_trans hb.out (kept_trans hb2 hb3)⟩
  | false =>
    have hok := ck_of hg hq
    obtain ⟨hS, h40, h20⟩ := Small.of_great hg
    rw [List.length_map, hn] at h40
    have hc20 : ∀ x ∈ L, x.1.cs.length ≤ 20 := fun x hx => h20 _ (List.mem_map.2 ⟨x, hx, rfl⟩)
    have hnc := hl.2 _ _ _ rfl
    obtain ⟨r1, r2, r3, hT⟩ : ∃ r1 r2 r3, checkT (L.map (·.1)) win = (r1, r2, r3) := ⟨_, _, _, rfl⟩
    obtain ⟨B, hB⟩ : ∃ B, mayB (L.map (·.1)) win = B := ⟨_, rfl⟩
    obtain ⟨T, hTl⟩ : ∃ T, tailP (L.map (·.1)) = T := ⟨_, rfl⟩
    obtain ⟨H, hH⟩ : ∃ H, headP (L.map (·.1)) i = H := ⟨_, rfl⟩
    have C1 : Hid (∀ W, TlK w a n c win L W → Calls Try.prog 10 #[ptV (.slice a n c) win] W fun e W' => e = .returned (.tuple #[.int .i64 r1, .int .i64 r2, .int .i64 r3]) ∧ TlK w a n c win L W') := fun W hW => (by have := check_V win hok W hW.1.2.2; rw [hT] at this; exact this.mono fun e W' ⟨he, hb⟩ => ⟨he, hW.later hb⟩)
    have C2 : Hid (∀ W, TlK w a n c win L W → Calls Try.prog 11 #[ptV (.slice a n c) win] W fun e W' => e = .returned (.tuple #[.int .i64 r1, .int .i64 r2, .int .i64 r3]) ∧ TlK w a n c win L W') := fun W hW => (by have := refCheck_L a n c win L hS.short W hn (by omega) hc20 hW.1.2.2; rw [hT] at this; exact this.mono fun e W' ⟨he, hb⟩ => ⟨he, hW.later hb⟩)
    have M1 : Hid (∀ W, TlK w a n c win L W → Calls Try.prog 12 #[.agg #[.slice a n c, .int .i64 win]] W fun e W' => e = .returned (.bool B) ∧ TlK w a n c win L W') := fun W hW => (by have := may_V win hok W hW.1.2.2; rw [hB] at this; exact this.mono fun e W' ⟨he, hb⟩ => ⟨he, hW.later hb⟩)
    have M2 : Hid (∀ W, TlK w a n c win L W → Calls Try.prog 13 #[.agg #[.slice a n c, .int .i64 win]] W fun e W' => e = .returned (.bool B) ∧ TlK w a n c win L W') := fun W hW => (by have := refMay_L a n c win L hS.short W hn (by omega) hc20 hW.1.2.2; rw [hB] at this; exact this.mono fun e W' ⟨he, hb⟩ => ⟨he, hW.later hb⟩)
    have T1 : Hid (∀ W, TlK w a n c win L W → Calls Try.prog 14 #[.agg #[.slice a n c, .int .i64 win]] W fun e W' => e = .returned (.int .i64 T) ∧ TlK w a n c win L W') := fun W hW => (by have := tail_any a n c win L (by omega) W hn hW.1.2.2; rw [hTl] at this; exact this.mono fun e W' ⟨he, hb⟩ => ⟨he, hW.later hb⟩)
    have T2 : Hid (∀ W, TlK w a n c win L W → Calls Try.prog 15 #[.agg #[.slice a n c, .int .i64 win]] W fun e W' => e = .returned (.int .i64 T) ∧ TlK w a n c win L W') := fun W hW => (by have := refTail_L a n c win L (by omega) W hn hW.1.2.2; rw [hTl] at this; exact this.mono fun e W' ⟨he, hb⟩ => ⟨he, hW.later hb⟩)
    have H1 : Hid (∀ W, TlK w a n c win L W → Calls Try.prog 16 #[.agg #[.slice a n c, .int .i64 win], .int .i64 i] W fun e W' => e = .returned (.int .i64 H) ∧ TlK w a n c win L W') := fun W hW => (by have := head_any a n c win i L (by omega) hnc W hn hW.1.2.2; rw [hH] at this; exact this.mono fun e W' ⟨he, hb⟩ => ⟨he, hW.later hb⟩)
    have H2 : Hid (∀ W, TlK w a n c win L W → Calls Try.prog 17 #[.agg #[.slice a n c, .int .i64 win], .int .i64 i] W fun e W' => e = .returned (.int .i64 H) ∧ TlK w a n c win L W') := fun W hW => (by have := refHead_L a n c win i L (by omega) W hn hW.1.2.2; rw [hH] at this; exact this.mono fun e W' ⟨he, hb⟩ => ⟨he, hW.later hb⟩)
    have K9 : Hid (∀ W, TlK w a n c win L W → Calls Try.prog 9 #[] W fun e W' => e = .returned (.bool true) ∧ TlK w a n c win L W') := fun W h => (hwk W).mono fun e W' ⟨he, hb⟩ => ⟨he, h.later hb⟩
    replace hG := Lib.hid hG
    have hall := Lib.hid (fun (X : World) (h : TlK w a n c win L X) => TlK.all h)
    have hpp := Lib.hid hp
    clear hg h hl hwk hq hok hS hb hp hT hB hTl hH hc20 h20 hn hW
    go_enter Try.func3, Try.ntmps3
    go_upto_region 5 with (first
      | ((with_reducible refine hG.out.mono ?_); rintro e X ⟨rfl, hbx⟩; replace hpp := Lib.hid (hpp.out.later hbx); obtain ⟨⟨c0, c1⟩, -⟩ := hall.out _ hpp.out)
      | ((with_reducible refine (C1.out _ hpp.out).mono ?_); rintro e X ⟨rfl, hKx⟩; replace hpp := Lib.hid hKx; obtain ⟨⟨c0, c1⟩, -⟩ := hall.out _ hpp.out; clear hKx)
      | ((with_reducible refine (C2.out _ hpp.out).mono ?_); rintro e X ⟨rfl, hKx⟩; replace hpp := Lib.hid hKx; clear hKx))
    rename_i X0 _ _
    have hK0 : TlK w a n c win L X.drew := hpp.out.later (Below.refl _ _).drew
    clear hG C1 C2 c0 c1
    go_region_held3 (fun X => (X.cell? ⟨w.heap.size, 0, none⟩ = some (.slice a n c) ∧ X.cell? ⟨w.heap.size, 1, none⟩ = some (.int .i64 win)) ∧ TlK w a n c win L X) (first | exact hall.out _ hK0 | (try go_split_ands); exact hall.out _ ‹TlK w a n c win L _›) (first
      | (go_at_call 12; (try go_split_ands); (with_reducible refine (M1.out _ ‹TlK w a n c win L _›).mono ?_); rintro e X ⟨rfl, hK1⟩)
      | (go_at_call 13; (try go_split_ands); (with_reducible refine (M2.out _ ‹TlK w a n c win L _›).mono ?_); rintro e X ⟨rfl, hK2⟩)
      | (go_at_call 14; (try go_split_ands); (with_reducible refine (T1.out _ ‹TlK w a n c win L _›).mono ?_); rintro e X ⟨rfl, hK3⟩)
      | (go_at_call 15; (try go_split_ands); (with_reducible refine (T2.out _ ‹TlK w a n c win L _›).mono ?_); rintro e X ⟨rfl, hK4⟩)
      | (go_at_call 16; (try go_split_ands); (with_reducible refine (H1.out _ ‹TlK w a n c win L _›).mono ?_); rintro e X ⟨rfl, hK5⟩)
      | (go_at_call 17; (try go_split_ands); (with_reducible refine (H2.out _ ‹TlK w a n c win L _›).mono ?_); rintro e X ⟨rfl, hK6⟩)
      | (go_at_call 9; (try go_split_ands); (with_reducible refine (K9.out _ ‹TlK w a n c win L _›).mono ?_); rintro e X ⟨rfl, hK7⟩)
      | fail)
    all_goals (go_wp2_with fail)
    all_goals go_ret
    all_goals exact ⟨rfl, hK7.2⟩
end Go.Proofs.Ytmgkamljlgmmeaa.Tree
