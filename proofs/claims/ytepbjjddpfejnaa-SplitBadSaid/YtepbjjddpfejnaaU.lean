/-
  Contract of the iterator that split.pieces hands back: a script's pieces, in order, at every script in memory; no other condition.
-/
import Derived.Test.YtepbjjddpfejnaaT
namespace Go.Proofs.Ytepbjjddpfejnaa
open Go.ChangeShapes Go.WideShapes Go.ChangeAt Go.RowKit
set_option linter.unusedVariables false
set_option linter.unusedSimpArgs false
attribute [local go_sem] Oper.semAt_some
/-- How many bytes the piece at k tells that it has, how many it has, whether it is cut, where the next one begins. -/
def longAt (zs : List Int) (k : Nat) : Int := zs[k]?.getD 0
def hasAt (zs : List Int) (k : Nat) : Nat := min (longAt zs k).toNat (zs.length - (k + 1))
def cutAt (zs : List Int) (k : Nat) : Bool := decide ((hasAt zs k : Int) < longAt zs k)
def nextAt (zs : List Int) (k : Nat) : Nat := k + 1 + hasAt zs k
/-- Where the j-th piece from k on begins. -/
def stepAt (zs : List Int) : Nat → Nat → Nat
  | 0, k => k
  | j + 1, k => nextAt zs (stepAt zs j k)
def cntF (zs : List Int) : Nat → Nat → Nat
  | 0, _ => 0
  | f + 1, k => if k < zs.length then cntF zs f (nextAt zs k) + 1 else 0
/-- How many pieces a script has. -/
def cnt (zs : List Int) : Nat := cntF zs zs.length 0
def placeOf (zs : List Int) (j : Nat) : Nat := stepAt zs j 0
theorem hasAt_le (zs : List Int) (k : Nat) (h : k < zs.length) : k + 1 + hasAt zs k ≤ zs.length := by unfold hasAt; omega
theorem nextAt_le (zs : List Int) (k : Nat) (h : k < zs.length) : k < nextAt zs k ∧ nextAt zs k ≤ zs.length := by have := hasAt_le zs k h; unfold nextAt; omega
theorem stepAt_next (zs : List Int) (j k : Nat) : stepAt zs j (nextAt zs k) = stepAt zs (j + 1) k := by
  induction j with
  | zero => rfl
  | succ j ih => show nextAt zs (stepAt zs j (nextAt zs k)) = nextAt zs (stepAt zs (j + 1) k); rw [ih]
theorem cntF_spec (zs : List Int) (f : Nat) : ∀ k, k ≤ zs.length → zs.length - k ≤ f → (∀ j, j < cntF zs f k → stepAt zs j k < zs.length) ∧ stepAt zs (cntF zs f k) k = zs.length := by
  induction f with
  | zero => intro k h1 h2; exact ⟨fun j hj => by simp [cntF] at hj, by show k = _; omega⟩
  | succ f ih =>
    intro k h1 h2
    unfold cntF
    by_cases h : k < zs.length
    · have hn := nextAt_le zs k h
      obtain ⟨i1, i2⟩ := ih (nextAt zs k) hn.2 (by omega)
      rw [if_pos h]
      refine ⟨fun j hj => ?_, by rw [← stepAt_next]; exact i2⟩
      cases j with
      | zero => exact h
      | succ j => rw [← stepAt_next]; exact i1 j (by omega)
    · rw [if_neg h]
      exact ⟨fun j hj => by omega, by show k = _; omega⟩
theorem place_lt (zs : List Int) {j : Nat} (h : j < cnt zs) : placeOf zs j < zs.length := (cntF_spec zs zs.length 0 (by omega) (by omega)).1 j h
theorem place_end (zs : List Int) : placeOf zs (cnt zs) = zs.length := (cntF_spec zs zs.length 0 (by omega) (by omega)).2
theorem place_succ (zs : List Int) (j : Nat) : placeOf zs (j + 1) = nextAt zs (placeOf zs j) := rfl
theorem place_le (zs : List Int) {j : Nat} (h : j ≤ cnt zs) : placeOf zs j ≤ zs.length := by
  rcases Nat.lt_or_ge j (cnt zs) with h' | h'
  · exact Nat.le_of_lt (place_lt zs h')
  · rw [show j = cnt zs by omega, place_end]; omega
theorem place_ge (zs : List Int) (j : Nat) : j ≤ placeOf zs j := by
  induction j with
  | zero => omega
  | succ j ih => rw [place_succ]; unfold nextAt; omega
theorem cnt_le (zs : List Int) : cnt zs ≤ zs.length := by have := place_ge zs (cnt zs); rw [place_end] at this; exact this
/-- Where a piece's bytes lie. -/
def leftA (blk off cap k : Nat) : Addr := if cap = k + 1 then ⟨blk, off, none⟩ else ⟨blk, off + (k + 1), none⟩
/-- The piece at k, as a value. -/
def pieceV (blk off cap : Nat) (zs : List Int) (k : Nat) : Value := .agg #[.int .i64 k, .slice (some (leftA blk off cap k)) (hasAt zs k) (cap - (k + 1)), .bool (cutAt zs k)]
def pieceRow (blk off cap : Nat) (zs : List Int) : List (Array Value) := (List.range (cnt zs)).map fun j => #[pieceV blk off cap zs (placeOf zs j)]
theorem pieceRow_len (blk off cap : Nat) (zs : List Int) : (pieceRow blk off cap zs).length = cnt zs := by simp [pieceRow]
theorem pieceRow_at (blk off cap : Nat) (zs : List Int) (j : Nat) (h : j < cnt zs) : (pieceRow blk off cap zs)[j]?.getD #[] = #[pieceV blk off cap zs (placeOf zs j)] := by simp [pieceRow, h]
/-- The script lies in memory, in box B and as bytes. -/
def ScriptAt (B blk off cap : Nat) (zs : List Int) (W : World) : Prop := Boxed W B 22 (.slice (some ⟨blk, off, none⟩) zs.length cap) ∧ BytesAt blk off zs W
set_option maxHeartbeats 400000 in
theorem pieces_any (s : Value) (a : Option Addr) (len cap : Nat) (hs : s = .slice a len cap) (w : World) :
    Calls Try.prog 17 #[s] w fun e w' => e = .returned (.func (.func 27) #[] #[.pointer (some ⟨w.heap.size, 0, none⟩)]) ∧ w' = w.alloc (.cells #[s] 22) := by
  subst hs
  go_enter Try.func17, Try.ntmps17
  go_wp2
  go_ret
  exact ⟨rfl, rfl⟩
set_option maxRecDepth 100000 in
set_option maxHeartbeats 1000000 in
theorem pieces_tells (n B blk off cap : Nat) (hn : 1 ≤ n) (zs : List Int) (hcap : zs.length ≤ cap) (hlen : zs.length ≤ 140737488351232) (w : World) (hS : ScriptAt B blk off cap zs w) :
    TellsRowK False Fence.wide n Try.prog 27 #[.pointer (some ⟨B, 0, none⟩)] (ScriptAt B blk off cap zs) (pieceRow blk off cap zs) w := by
  intro l J Jx W hW hK hDr hY h0
  rw [pieceRow_len] at *
  have y : Hid (∀ j, j < cnt zs → ∀ W1, J j W1 → YieldAt Fence.wide (n - 1) Try.prog l #[pieceV blk off cap zs (placeOf zs j)] W1 fun e W' =>
      (e = .returned (.bool true) ∧ J (j + 1) W') ∨ (False ∧ e = .returned (.bool false) ∧ Jx (j + 1) W')) := fun j hj W1 hJ => by
    have := hY j hj W1 hJ
    rwa [pieceRow_at _ _ _ _ _ hj] at this
  clear hY hS hW
  refine callsIn_of_wp Try.func27 rfl trivial ?_ rfl
  simp only [Try.ntmps27, List.size_toArray, List.length_cons, List.length_nil, Nat.reduceAdd, Nat.reduceSub, Array.replicate_succ, Array.replicate_zero, List.push_toArray, List.append_toArray, List.nil_append, List.cons_append]
  gi_wp2
  gi_loopw [3] (fun t wr => ∃ j : Nat, j ≤ cnt zs ∧ t = .int .i64 (placeOf zs j) ∧ J j wr) (fun t _ => zs.length - (intOf t).toNat)
  case atStart => exact ⟨0, Nat.zero_le _, rfl, h0⟩
  case round =>
    clear h0
    obtain ⟨j, hj, rfl, hJs⟩ := hrel
    obtain ⟨hb, hby⟩ := hK _ _ hJs
    have hc := hb.cell
    by_cases hlt : j < cnt zs
    · have hk := place_lt zs hlt
      have hnx := place_succ zs j
      have yj := y.out j hlt
      have hm := nextAt_le zs _ hk
      have hh := hasAt_le zs _ hk
      have hcell := hby.2.1 _ hk
      obtain ⟨hz0, hz1⟩ : isByte (zs[placeOf zs j]?.getD 0) := hby.2.2 _ (by simp [hk])
      generalize placeOf zs j = k at *
      generalize hz : zs[k]?.getD 0 = z at *
      have hki : (k : Int) < zs.length := by omega
      have YJ := Lib.hid yj
      clear yj y
      by_cases hzl : z ≤ ((zs.length - (k + 1) : Nat) : Int)
      · have hha : hasAt zs k = z.toNat := by unfold hasAt longAt; rw [hz]; omega
        have hcu : cutAt zs k = false := by unfold cutAt longAt; rw [hz, hha]; simp; omega
        have HN : Hid (Value.int .i64 ((k : Int) + (1 + z)) = Value.int .i64 ((nextAt zs k : Nat) : Int)) := by
          unfold nextAt; rw [hha]; congr 1; omega
        rw [hha] at hh
        by_cases hck : cap = k + 1
        · have hle : zs.length = k + 1 := by omega
          have hz0 : z = 0 := by omega
          subst hz0
          have hpv : pieceV blk off cap zs k = .agg #[.int .i64 k, .slice (some ⟨blk, off, none⟩) 0 0, .bool false] := by
            unfold pieceV leftA; rw [if_pos hck, hha, hcu, hck, Nat.sub_self]; rfl
          have HN : Hid (Value.int .i64 ((k : Int) + 1) = Value.int .i64 ((nextAt zs k : Nat) : Int)) := by
            unfold nextAt; rw [hha]; congr 1
          clear hha hcu hz
          subst hck
          gi_wp2
          gi_quiet (fail)
          obtain ⟨fn, tmps, assign, body, hy, hR⟩ := (hpv ▸ YJ.out) _ (hDr _ _ nq hJs)
          clear hpv
          gi_wp2
          refine hR.mono ?_
          rintro e W3 (⟨rfl, hJ3⟩ | ⟨hst, _⟩)
          · gi_wp2
            go_roundw
            case rel => exact ⟨j + 1, by omega, by rw [hnx]; exact HN.out, hJ3⟩
            case measure => simp [intOf]; omega
          · exact hst.elim
        · have hpv : pieceV blk off cap zs k = .agg #[.int .i64 k, .slice (some ⟨blk, off + (k + 1), none⟩) z.toNat (cap - (k + 1)), .bool false] := by
            unfold pieceV leftA; rw [if_neg hck, hha, hcu]
          clear hha hcu hz
          gi_wp2
          gi_quiet (fail)
          obtain ⟨fn, tmps, assign, body, hy, hR⟩ := (hpv ▸ YJ.out) _ (hDr _ _ nq hJs)
          clear hpv
          gi_wp2
          refine hR.mono ?_
          rintro e W3 (⟨rfl, hJ3⟩ | ⟨hst, _⟩)
          · gi_wp2
            go_roundw
            case rel => exact ⟨j + 1, by omega, by rw [hnx]; exact HN.out, hJ3⟩
            case measure => simp [intOf]; omega
          · exact hst.elim
      · have hha : hasAt zs k = zs.length - (k + 1) := by unfold hasAt longAt; rw [hz]; omega
        have hcu : cutAt zs k = true := by unfold cutAt longAt; rw [hz, hha]; simp; omega
        have HN : Hid (Value.int .i64 ((k : Int) + (1 + ((zs.length - (k + 1) : Nat) : Int))) = Value.int .i64 ((nextAt zs k : Nat) : Int)) := by
          unfold nextAt; rw [hha]; congr 1; omega
        rw [hha] at hh
        by_cases hck : cap = k + 1
        · have hle : zs.length = k + 1 := by omega
          have hle0 : zs.length - (k + 1) = 0 := by omega
          have hpv : pieceV blk off cap zs k = .agg #[.int .i64 k, .slice (some ⟨blk, off, none⟩) 0 0, .bool true] := by
            unfold pieceV leftA; rw [if_pos hck, hha, hcu, hck, Nat.sub_self, hle0]
          have HN : Hid (Value.int .i64 ((k : Int) + 1) = Value.int .i64 ((nextAt zs k : Nat) : Int)) := by
            unfold nextAt; rw [hha, hle0]; congr 1
          have hz3 : (0 : Int) < z := by omega
          clear hha hcu hz hle0
          subst hck
          gi_wp2
          gi_quiet (fail)
          obtain ⟨fn, tmps, assign, body, hy, hR⟩ := (hpv ▸ YJ.out) _ (hDr _ _ nq hJs)
          clear hpv
          gi_wp2
          refine hR.mono ?_
          rintro e W3 (⟨rfl, hJ3⟩ | ⟨hst, _⟩)
          · gi_wp2
            go_roundw
            case rel => exact ⟨j + 1, by omega, by rw [hnx]; exact HN.out, hJ3⟩
            case measure => simp [intOf]; omega
          · exact hst.elim
        · have hpv : pieceV blk off cap zs k = .agg #[.int .i64 k, .slice (some ⟨blk, off + (k + 1), none⟩) (zs.length - (k + 1)) (cap - (k + 1)), .bool true] := by
            unfold pieceV leftA; rw [if_neg hck, hha, hcu]
          clear hha hcu hz
          gi_wp2
          gi_quiet (fail)
          obtain ⟨fn, tmps, assign, body, hy, hR⟩ := (hpv ▸ YJ.out) _ (hDr _ _ nq hJs)
          clear hpv
          gi_wp2
          refine hR.mono ?_
          rintro e W3 (⟨rfl, hJ3⟩ | ⟨hst, _⟩)
          · gi_wp2
            go_roundw
            case rel => exact ⟨j + 1, by omega, by rw [hnx]; exact HN.out, hJ3⟩
            case measure => simp [intOf]; omega
          · exact hst.elim
    · obtain rfl : j = cnt zs := by omega
      rw [place_end]
      gi_wp2
      go_end0
      exact ⟨⟨_, rfl⟩, .inl hJs⟩
end Go.Proofs.Ytepbjjddpfejnaa
