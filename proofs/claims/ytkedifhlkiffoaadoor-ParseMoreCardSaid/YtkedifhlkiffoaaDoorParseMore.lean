/-
  ParseMore of stage 9, at every input: the law's call returns true, for any text, kind, strictness and negation, where the ways of comparing lie as the program's text lays them; no other condition.
-/
import Derived.Test.YtkedifhlkiffoaaDoorPT
import Derived.Test.YtkedifhlkiffoaaDoorPP
import Derived.Test.YtkedifhlkiffoaaDoorLU
import Derived.Deep.RegionHeld3
import Derived.Deep.Cut
import Derived.Test.YtkedifhlkiffoaaDoorLP
import Derived.Deep.QuietTactic
import Derived.RegionTactic
import Derived.BigRegion
namespace Go.Proofs.YtkedifhlkiffoaaDoor.parseMore
open Go.ChangeShapes Go.WideShapes Go.ChangeAt Go.RowKit
open Tree (Tm Cp Sp)
set_option linter.unusedVariables false
set_option linter.unusedSimpArgs false
set_option maxRecDepth 100000
attribute [local go_sem] Oper.semAt_some
/-- The first k have come up, and these. -/
def fsH (n k : Nat) (ex : List Nat) : Array Bool := ((List.range n).map fun i => decide (i < k) || ex.contains i).toArray
theorem held_op {P : Program} {ops : Array Oper} {Q : Exit → Act → World → Prop} {i : Nat} {o : Oper} {K : Act → World → Prop} {a : Act} {w : World} (h0 : ops[i]? = some o) (hw : Region.wanted o (yielded ops a.tmps) = true)
    (h : ∀ K' : Act → World → Prop, (∀ a w, K a w → K' a w) → Oper.wp P o a w K' Q) : wpOp P ops Q i K a w := by
  unfold wpOp
  rw [h0]
  simp only [hw, if_true]
  exact .inl (h K fun _ _ h => h)
/-- A region of a code by its number. -/
def regOf (id : Nat) : Code → Option Code
  | .region i o d => if i = id then some (.region i o d) else none
  | .loop c => regOf id c
  | .seq a b => match regOf id a with
    | some c => some c
    | none => regOf id b
  | .block _ c => regOf id c
  | .scope c => regOf id c
  | .cond _ a b => match regOf id a with
    | some c => some c
    | none => regOf id b
  | .rangeFunc _ _ a b => match regOf id a with
    | some c => some c
    | none => regOf id b
  | _ => none
noncomputable def reg7 : Code := (Tryd.f7.body.bind (regOf 16)).getD .skip
def ByK (p : Nat) (x y : Int) (X : World) : Prop := X.heap[p]? = some (.cells #[.int .u8 x, .int .u8 y] 5 (0, 0))
theorem ByK.later {p : Nat} {x y : Int} {X Y : World} (h : ByK p x y X) (hb : Below X.heap.size X Y) : ByK p x y Y := (hb.block _ (Array.getElem?_eq_some_iff.1 h).1).trans h
def PbZ (N p : Nat) (X : World) : Prop := N ≤ p ∧ X.heap[p]? = some (.cells #[.slice none 0 0, .int .i64 0] 25 (0, 0))
theorem PbZ.later {N p : Nat} {X Y : World} (h : PbZ N p X) (hb : Below X.heap.size X Y) : PbZ N p Y := ⟨h.1, (hb.block _ (Array.getElem?_eq_some_iff.1 h.2).1).trans h.2⟩
def PbF (p : Nat) (v : Value) (wq : Int) (X : World) : Prop := X.heap[p]? = some (.cells #[v, .int .i64 wq] 25 (0, 0))
theorem PbF.later {p : Nat} {v : Value} {wq : Int} {X Y : World} (h : PbF p v wq X) (hb : Below X.heap.size X Y) : PbF p v wq Y := (hb.block _ (Array.getElem?_eq_some_iff.1 h).1).trans h
/-- A pattern's steps in memory of their own. -/
def PrS (st : List Sp) (v : Value) (X : World) : Prop := ∃ L, OwnP X 0 v L ∧ L.map (·.1) = st
theorem PrS.later {st : List Sp} {v : Value} {X Y : World} (h : PrS st v X) (hb : Below X.heap.size X Y) : PrS st v Y := by
  obtain ⟨L, h1, h2⟩ := h
  exact ⟨L, h1.kept (row := none) ⟨hb.os, hb.tape, hb.output, hb.size, fun k hk _ => hb.block k hk⟩ (fun q e => by cases e), h2⟩
theorem two_kept {N p : Nat} {W X : World} (h : Below N W X) (hp : N ≤ p) (u v : Value) : Below N W ((X.setCell ⟨p, 0, none⟩ u).setCell ⟨p, 1, none⟩ v) := (h.setCell (p := ⟨p, 0, none⟩) hp u).setCell (p := ⟨p, 1, none⟩) hp v
theorem PbZ.full {N p : Nat} {X : World} (h : PbZ N p X) (v : Value) (wq : Int) : PbF p v wq ((X.setCell ⟨p, 0, none⟩ v).setCell ⟨p, 1, none⟩ (.int .i64 wq)) := by
  have hk := h.2
  unfold PbF
  simp only [World.setCell, Array.getElem?_modify]
  simp [hk]
theorem PrS.far {st : List Sp} {v u x : Value} {X : World} {N p : Nat} (h : PrS st v X) (hp : PbZ N p X) : PrS st v ((X.setCell ⟨p, 0, none⟩ u).setCell ⟨p, 1, none⟩ x) := by
  obtain ⟨L, h1, h2⟩ := h
  have hk := hp.2
  have h3 : (X.setCell ⟨p, 0, none⟩ u).heap[p]? = some (.cells #[u, .int .i64 0] 25 (0, 0)) := by
    simp only [World.setCell, Array.getElem?_modify]
    simp [hk]
  exact ⟨L, (h1.far hp.2 (by decide) (by decide)).far h3 (by decide) (by decide), h2⟩
theorem conv_op {o : Oper} {a : Act} {w : World} {K : Act → World → Prop} {Q : Exit → Act → World → Prop} (x : Operand) (k n : Int) (p : Nat) (ho : o.op = .convert 42 9 x) (e : a.eval x = .slice (some ⟨p, 0, none⟩) 2 2) (h : ByK p k n w)
    (hk : K (a.put o.dst (.string ⟨#[u8 k, u8 n]⟩)) w) : Oper.wp Tryd.prog o a w K Q := by
  have hc : (convert 42 9 (.slice (some ⟨p, 0, none⟩) 2 2)).run Tryd.prog w = .ok (.string ⟨#[u8 k, u8 n]⟩) w :=
    run_convert_bytes_arg w 42 5 Tryd.underlying42 Tryd.underlying5 p 0 2 2 [k, n] rfl (fun i hi => by
      rw [cell_of_row _ _ _ _ _ _ h]
      match i, hi with
      | 0, _ => rfl
      | 1, _ => rfl) 9 Tryd.underlying9
  obtain ⟨d, op, t, q, af, g⟩ := o
  dsimp only at ho hk
  subst ho
  unfold Oper.wp
  simp [execOp, e, hc, Result.andThen]
  exact hk
theorem store_pt {o : Oper} {a : Act} {w : World} {K : Act → World → Prop} {Q : Exit → Act → World → Prop} {N : Nat} (x y : Operand) (p : Nat) (a3 : Option Addr) (n3 c3 : Nat) (wq : Int) (ho : o.op = .store 25 x y) (hd : o.dst = none)
    (e1 : a.eval x = .pointer (some ⟨p, 0, none⟩)) (e2 : a.eval y = Tree.ptV (.slice a3 n3 c3) wq) (hb : PbZ N p w)
    (h : K a ((w.setCell ⟨p, 0, none⟩ (.slice a3 n3 c3)).setCell ⟨p, 1, none⟩ (.int .i64 wq))) : Oper.wp Tryd.prog o a w K Q := by
  obtain ⟨d, op, t, q, af, g⟩ := o
  dsimp only at ho hd
  subst ho hd
  have hz := hb.2
  have z0 : w.cell? ⟨p, 0, none⟩ = some (.slice none 0 0) := by simp [World.cell?, hz]
  have z1 : w.cell? ⟨p, 1, none⟩ = some (.int .i64 0) := by simp [World.cell?, hz]
  have f0 : ∀ j, w.frozen? ⟨p, j, none⟩ = false := fun j => by simp [World.frozen?, hz]
  unfold Oper.wp
  simp only [execOp, e1, e2, List.map_toArray, List.map_cons, List.map_nil]
  go_simp
  exact h
set_option maxHeartbeats 8000000 in
theorem more_reg16 {p N : Nat} {kind k8 n8 wq : Int} {T sepv markv A1 A3 B2 T1 T2 T3 T4 T5 : ByteArray} {st : List Sp} (wr : World) (hp : p ≤ T.size)
    (hA1 : T.extract 0 p = A1) (hA3 : T.extract p T.size = A3) (hB2 : (⟨#[u8 k8, u8 n8]⟩ : ByteArray) = B2) (hT1 : A1 ++ sepv = T1) (hT2 : T1 ++ markv = T2) (hT3 : T2 ++ B2 = T3) (hT4 : T3 ++ ⟨#[32]⟩ = T4) (hT5 : T4 ++ A3 = T5)
    (v1 : IntKind.wrap .i64 (48 + kind) = k8) (v2 : IntKind.wrap .u8 k8 = k8) (v3 : IntKind.wrap .i64 (97 + (N : Int)) = n8) (v4 : IntKind.wrap .u8 n8 = n8)
    (s1 : ¬ 9223372036854775807 < A1.size + sepv.size) (s2 : ¬ 9223372036854775807 < T1.size + markv.size) (s3 : ¬ 9223372036854775807 < T2.size + B2.size) (s4 : ¬ 9223372036854775807 < T3.size + 1) (s5 : ¬ 9223372036854775807 < T4.size + A3.size)
    (D210 : Hid (∀ X, Below wr.drew.heap.size wr.drew X → Calls Tryd.prog 14 #[.string T5] X fun e Y => ∃ a5 n5 c5, e = .returned (.tuple #[Tree.ptV (.slice a5 n5 c5) wq, .int .i64 0, .int .i64 0]) ∧ PrS st (.slice a5 n5 c5) Y ∧ Below X.heap.size X Y))
    (u2 u3 u4 u5 u6 u7 u8 u9 u10 u11 u12 u13 u14 u22 u23 u24 u25 u26 u27 u28 u29 u30 u31 u32 u33 u34 u35 u36 u37 u38 u39 u40 u41 u42 u43 u44 u45 u46 u47 u48 u49 u50 u51 u52 u53 u54 u55 u56 u57 u58 u59 u60 u61 u62 u63 u64 u65 u66 u67 u68 u69 u70 u71 u72 u73 u74 u75 u76 u77 u78 u79 u80 u107 u108 u109 u110 u111 u112 u113 u114 u115 u116 u117 u118 u119 u120 u121 u122 u123 u124 u125 u126 u127 y19 y20 y21 y81 y82 y83 y84 y85 y86 y87 y88 y89 y90 y91 y92 y93 y94 y95 y96 y97 y98 y99 y100 y101 y102 y103 y104 y105 y106 : Value) (Q0 : Exit → Act → World → Prop)
    (hQ0 : ∀ (p19 : Nat) (a5 : Option Addr) (n5 c5 : Nat) (x81 x82 x83 x84 x85 x86 x87 x88 x89 x90 x91 x92 x93 x94 x95 x96 x97 x98 x99 x100 x101 x102 x103 x104 x105 x106 : Value) (X : World), PrS st (.slice a5 n5 c5) X → PbF p19 (.slice a5 n5 c5) wq X → Below wr.drew.heap.size wr.drew X → Q0 .normal ({ tmps := #[.string T, .int .i64 kind, u2, u3, u4, u5, u6, u7, u8, u9, u10, u11, u12, u13, u14, .int .i64 (p : Nat), .string sepv, .string markv, .int .i64 (N : Nat), .pointer (some ⟨p19, 0, none⟩), .int .i64 0, .int .i64 0, u22, u23, u24, u25, u26, u27, u28, u29, u30, u31, u32, u33, u34, u35, u36, u37, u38, u39, u40, u41, u42, u43, u44, u45, u46, u47, u48, u49, u50, u51, u52, u53, u54, u55, u56, u57, u58, u59, u60, u61, u62, u63, u64, u65, u66, u67, u68, u69, u70, u71, u72, u73, u74, u75, u76, u77, u78, u79, u80, x81, x82, x83, x84, x85, x86, x87, x88, x89, x90, x91, x92, x93, x94, x95, x96, x97, x98, x99, x100, x101, x102, x103, x104, x105, x106, u107, u108, u109, u110, u111, u112, u113, u114, u115, u116, u117, u118, u119, u120, u121, u122, u123, u124, u125, u126, u127], defers := [] }) X) :
    Code.wp Tryd.prog reg7 Q0 ({ tmps := #[.string T, .int .i64 kind, u2, u3, u4, u5, u6, u7, u8, u9, u10, u11, u12, u13, u14, .int .i64 (p : Nat), .string sepv, .string markv, .int .i64 (N : Nat), y19, y20, y21, u22, u23, u24, u25, u26, u27, u28, u29, u30, u31, u32, u33, u34, u35, u36, u37, u38, u39, u40, u41, u42, u43, u44, u45, u46, u47, u48, u49, u50, u51, u52, u53, u54, u55, u56, u57, u58, u59, u60, u61, u62, u63, u64, u65, u66, u67, u68, u69, u70, u71, u72, u73, u74, u75, u76, u77, u78, u79, u80, y81, y82, y83, y84, y85, y86, y87, y88, y89, y90, y91, y92, y93, y94, y95, y96, y97, y98, y99, y100, y101, y102, y103, y104, y105, y106, u107, u108, u109, u110, u111, u112, u113, u114, u115, u116, u117, u118, u119, u120, u121, u122, u123, u124, u125, u126, u127], defers := [] }) wr := by
  conv => arg 2; whnf
  obtain ⟨W0, hW0⟩ : ∃ W0, wr.drew = W0 := ⟨_, rfl⟩
  rw [hW0] at D210 hQ0
  have D21 := D210
  have hpi : (p : Int) ≤ T.size := by omega
  have s4' : ¬ 9223372036854775807 < T3.size + (⟨#[32]⟩ : ByteArray).size := s4
  have hW' := Below.refl W0.heap.size W0
  have hmx : Tryd.prog.follows .mixedOrders = true := by kernel_rfl
  replace hQ0 := Lib.hid hQ0
  refine wp_region_noPanic ?_
  refine wp_region_held (S := fun Z => Below W0.heap.size W0 Z) hmx ?_
  try dsimp only [List.append]
  change wpAnyH _ _ _ _ _ _ _ _ wr.drew
  rw [hW0]
  generalize hops : (List.toArray _ : Array Oper) = ops
  generalize hQQ : NoPanic _ = QQ
  have hQp : ∀ (d : Option Tmp) (v : Value) (c : _) (a : Act) (w : World), QQ (.panic c) (a.put d v) w → QQ (.panic c) a w := by rw [← hQQ]; intro d v c a w h; exact h
  have hNS : Region.noSelect ops = true := by rw [← hops]; kernel_rfl
  obtain ⟨oo, hop0⟩ : ∃ o, ops[0]? = some o := ⟨_, by rw [← hops]; rfl⟩
  have hv := hop0
  rw [← hops] at hv
  simp only [List.getElem?_toArray, List.getElem?_cons_succ, List.getElem?_cons_zero, Option.some.injEq] at hv
  subst hv
  obtain ⟨oo, hop1⟩ : ∃ o, ops[1]? = some o := ⟨_, by rw [← hops]; rfl⟩
  have hv := hop1
  rw [← hops] at hv
  simp only [List.getElem?_toArray, List.getElem?_cons_succ, List.getElem?_cons_zero, Option.some.injEq] at hv
  subst hv
  obtain ⟨oo, hop2⟩ : ∃ o, ops[2]? = some o := ⟨_, by rw [← hops]; rfl⟩
  have hv := hop2
  rw [← hops] at hv
  simp only [List.getElem?_toArray, List.getElem?_cons_succ, List.getElem?_cons_zero, Option.some.injEq] at hv
  subst hv
  obtain ⟨oo, hop3⟩ : ∃ o, ops[3]? = some o := ⟨_, by rw [← hops]; rfl⟩
  have hv := hop3
  rw [← hops] at hv
  simp only [List.getElem?_toArray, List.getElem?_cons_succ, List.getElem?_cons_zero, Option.some.injEq] at hv
  subst hv
  obtain ⟨oo, hop4⟩ : ∃ o, ops[4]? = some o := ⟨_, by rw [← hops]; rfl⟩
  have hv := hop4
  rw [← hops] at hv
  simp only [List.getElem?_toArray, List.getElem?_cons_succ, List.getElem?_cons_zero, Option.some.injEq] at hv
  subst hv
  obtain ⟨oo, hop5⟩ : ∃ o, ops[5]? = some o := ⟨_, by rw [← hops]; rfl⟩
  have hv := hop5
  rw [← hops] at hv
  simp only [List.getElem?_toArray, List.getElem?_cons_succ, List.getElem?_cons_zero, Option.some.injEq] at hv
  subst hv
  obtain ⟨oo, hop6⟩ : ∃ o, ops[6]? = some o := ⟨_, by rw [← hops]; rfl⟩
  have hv := hop6
  rw [← hops] at hv
  simp only [List.getElem?_toArray, List.getElem?_cons_succ, List.getElem?_cons_zero, Option.some.injEq] at hv
  subst hv
  obtain ⟨oo, hop7⟩ : ∃ o, ops[7]? = some o := ⟨_, by rw [← hops]; rfl⟩
  have hv := hop7
  rw [← hops] at hv
  simp only [List.getElem?_toArray, List.getElem?_cons_succ, List.getElem?_cons_zero, Option.some.injEq] at hv
  subst hv
  obtain ⟨oo, hop8⟩ : ∃ o, ops[8]? = some o := ⟨_, by rw [← hops]; rfl⟩
  have hv := hop8
  rw [← hops] at hv
  simp only [List.getElem?_toArray, List.getElem?_cons_succ, List.getElem?_cons_zero, Option.some.injEq] at hv
  subst hv
  obtain ⟨oo, hop9⟩ : ∃ o, ops[9]? = some o := ⟨_, by rw [← hops]; rfl⟩
  have hv := hop9
  rw [← hops] at hv
  simp only [List.getElem?_toArray, List.getElem?_cons_succ, List.getElem?_cons_zero, Option.some.injEq] at hv
  subst hv
  obtain ⟨oo, hop10⟩ : ∃ o, ops[10]? = some o := ⟨_, by rw [← hops]; rfl⟩
  have hv := hop10
  rw [← hops] at hv
  simp only [List.getElem?_toArray, List.getElem?_cons_succ, List.getElem?_cons_zero, Option.some.injEq] at hv
  subst hv
  obtain ⟨oo, hop11⟩ : ∃ o, ops[11]? = some o := ⟨_, by rw [← hops]; rfl⟩
  have hv := hop11
  rw [← hops] at hv
  simp only [List.getElem?_toArray, List.getElem?_cons_succ, List.getElem?_cons_zero, Option.some.injEq] at hv
  subst hv
  obtain ⟨oo, hop12⟩ : ∃ o, ops[12]? = some o := ⟨_, by rw [← hops]; rfl⟩
  have hv := hop12
  rw [← hops] at hv
  simp only [List.getElem?_toArray, List.getElem?_cons_succ, List.getElem?_cons_zero, Option.some.injEq] at hv
  subst hv
  obtain ⟨oo, hop13⟩ : ∃ o, ops[13]? = some o := ⟨_, by rw [← hops]; rfl⟩
  have hv := hop13
  rw [← hops] at hv
  simp only [List.getElem?_toArray, List.getElem?_cons_succ, List.getElem?_cons_zero, Option.some.injEq] at hv
  subst hv
  obtain ⟨oo, hop14⟩ : ∃ o, ops[14]? = some o := ⟨_, by rw [← hops]; rfl⟩
  have hv := hop14
  rw [← hops] at hv
  simp only [List.getElem?_toArray, List.getElem?_cons_succ, List.getElem?_cons_zero, Option.some.injEq] at hv
  subst hv
  obtain ⟨oo, hop15⟩ : ∃ o, ops[15]? = some o := ⟨_, by rw [← hops]; rfl⟩
  have hv := hop15
  rw [← hops] at hv
  simp only [List.getElem?_toArray, List.getElem?_cons_succ, List.getElem?_cons_zero, Option.some.injEq] at hv
  subst hv
  obtain ⟨oo, hop16⟩ : ∃ o, ops[16]? = some o := ⟨_, by rw [← hops]; rfl⟩
  have hv := hop16
  rw [← hops] at hv
  simp only [List.getElem?_toArray, List.getElem?_cons_succ, List.getElem?_cons_zero, Option.some.injEq] at hv
  subst hv
  obtain ⟨oo, hop17⟩ : ∃ o, ops[17]? = some o := ⟨_, by rw [← hops]; rfl⟩
  have hv := hop17
  rw [← hops] at hv
  simp only [List.getElem?_toArray, List.getElem?_cons_succ, List.getElem?_cons_zero, Option.some.injEq] at hv
  subst hv
  obtain ⟨oo, hop18⟩ : ∃ o, ops[18]? = some o := ⟨_, by rw [← hops]; rfl⟩
  have hv := hop18
  rw [← hops] at hv
  simp only [List.getElem?_toArray, List.getElem?_cons_succ, List.getElem?_cons_zero, Option.some.injEq] at hv
  subst hv
  obtain ⟨oo, hop19⟩ : ∃ o, ops[19]? = some o := ⟨_, by rw [← hops]; rfl⟩
  have hv := hop19
  rw [← hops] at hv
  simp only [List.getElem?_toArray, List.getElem?_cons_succ, List.getElem?_cons_zero, Option.some.injEq] at hv
  subst hv
  obtain ⟨oo, hop20⟩ : ∃ o, ops[20]? = some o := ⟨_, by rw [← hops]; rfl⟩
  have hv := hop20
  rw [← hops] at hv
  simp only [List.getElem?_toArray, List.getElem?_cons_succ, List.getElem?_cons_zero, Option.some.injEq] at hv
  subst hv
  obtain ⟨oo, hop21⟩ : ∃ o, ops[21]? = some o := ⟨_, by rw [← hops]; rfl⟩
  have hv := hop21
  rw [← hops] at hv
  simp only [List.getElem?_toArray, List.getElem?_cons_succ, List.getElem?_cons_zero, Option.some.injEq] at hv
  subst hv
  obtain ⟨oo, hop22⟩ : ∃ o, ops[22]? = some o := ⟨_, by rw [← hops]; rfl⟩
  have hv := hop22
  rw [← hops] at hv
  simp only [List.getElem?_toArray, List.getElem?_cons_succ, List.getElem?_cons_zero, Option.some.injEq] at hv
  subst hv
  obtain ⟨oo, hop23⟩ : ∃ o, ops[23]? = some o := ⟨_, by rw [← hops]; rfl⟩
  have hv := hop23
  rw [← hops] at hv
  simp only [List.getElem?_toArray, List.getElem?_cons_succ, List.getElem?_cons_zero, Option.some.injEq] at hv
  subst hv
  obtain ⟨oo, hop24⟩ : ∃ o, ops[24]? = some o := ⟨_, by rw [← hops]; rfl⟩
  have hv := hop24
  rw [← hops] at hv
  simp only [List.getElem?_toArray, List.getElem?_cons_succ, List.getElem?_cons_zero, Option.some.injEq] at hv
  subst hv
  obtain ⟨oo, hop25⟩ : ∃ o, ops[25]? = some o := ⟨_, by rw [← hops]; rfl⟩
  have hv := hop25
  rw [← hops] at hv
  simp only [List.getElem?_toArray, List.getElem?_cons_succ, List.getElem?_cons_zero, Option.some.injEq] at hv
  subst hv
  obtain ⟨oo, hop26⟩ : ∃ o, ops[26]? = some o := ⟨_, by rw [← hops]; rfl⟩
  have hv := hop26
  rw [← hops] at hv
  simp only [List.getElem?_toArray, List.getElem?_cons_succ, List.getElem?_cons_zero, Option.some.injEq] at hv
  subst hv
  obtain ⟨oo, hop27⟩ : ∃ o, ops[27]? = some o := ⟨_, by rw [← hops]; rfl⟩
  have hv := hop27
  rw [← hops] at hv
  simp only [List.getElem?_toArray, List.getElem?_cons_succ, List.getElem?_cons_zero, Option.some.injEq] at hv
  subst hv
  obtain ⟨oo, hop28⟩ : ∃ o, ops[28]? = some o := ⟨_, by rw [← hops]; rfl⟩
  have hv := hop28
  rw [← hops] at hv
  simp only [List.getElem?_toArray, List.getElem?_cons_succ, List.getElem?_cons_zero, Option.some.injEq] at hv
  subst hv
  obtain ⟨oo, hop29⟩ : ∃ o, ops[29]? = some o := ⟨_, by rw [← hops]; rfl⟩
  have hv := hop29
  rw [← hops] at hv
  simp only [List.getElem?_toArray, List.getElem?_cons_succ, List.getElem?_cons_zero, Option.some.injEq] at hv
  subst hv
  have H27 : ∀ (s20 s21 s81 s82 s83 s84 s85 s86 s87 s88 s89 s90 s91 s92 s93 s94 s95 s96 s97 s98 s99 s100 s101 s102 : Value) (a5 : Option Addr) (n5 : Nat) (c5 : Nat) (p19 : Nat) (X : World), Below W0.heap.size W0 X → PrS st (.slice a5 n5 c5) X → PbZ W0.heap.size p19 X → wpAnyH Tryd.prog .any ops QQ (fun Z => Below W0.heap.size W0 Z) 3 (fsH 30 27 []) ({ tmps := #[.string T, .int .i64 kind, u2, u3, u4, u5, u6, u7, u8, u9, u10, u11, u12, u13, u14, .int .i64 (p : Nat), .string sepv, .string markv, .int .i64 (N : Nat), .pointer (some ⟨p19, 0, none⟩), s20, s21, u22, u23, u24, u25, u26, u27, u28, u29, u30, u31, u32, u33, u34, u35, u36, u37, u38, u39, u40, u41, u42, u43, u44, u45, u46, u47, u48, u49, u50, u51, u52, u53, u54, u55, u56, u57, u58, u59, u60, u61, u62, u63, u64, u65, u66, u67, u68, u69, u70, u71, u72, u73, u74, u75, u76, u77, u78, u79, u80, s81, s82, s83, s84, s85, s86, s87, s88, s89, s90, s91, s92, s93, s94, s95, s96, s97, s98, s99, s100, s101, s102, .tuple #[Tree.ptV (.slice a5 n5 c5) wq, .int .i64 0, .int .i64 0], Tree.ptV (.slice a5 n5 c5) wq, .int .i64 0, .int .i64 0, u107, u108, u109, u110, u111, u112, u113, u114, u115, u116, u117, u118, u119, u120, u121, u122, u123, u124, u125, u126, u127], defers := [] }) X := by
    as_aux_lemma =>
    intro s20 s21 s81 s82 s83 s84 s85 s86 s87 s88 s89 s90 s91 s92 s93 s94 s95 s96 s97 s98 s99 s100 s101 s102 a5 n5 c5 p19 X hW' f21 f19
    refine wpAnyH_all (rs := [27]) (by rw [← hops]; kernel_rfl) (by simp) ?_
    intro ix hix
    simp only [List.mem_cons, List.not_mem_nil, or_false] at hix
    rcases hix with rfl
    · refine held_op hop27 (by rfl) (fun K' hK => ?_)
      have f19' := f19
      refine store_pt (.tmp 19) (.tmp 104) p19 a5 n5 c5 wq rfl rfl (by rfl) (by rfl) f19 ?_
      have g19 := f19.full (.slice a5 n5 c5) wq
      replace f21 := f21.far (u := .slice a5 n5 c5) (x := .int .i64 wq) f19
      replace hW' := two_kept hW' f19'.1 (.slice a5 n5 c5) (.int .i64 wq)
      refine hK _ _ ⟨hW', ?_⟩
      clear hK K'
      (try simp only [Act.put, List.setIfInBounds_toArray, List.set_cons_zero, List.set_cons_succ])
      rw [show (fsH 30 27 []).setIfInBounds 27 true = (fsH 30 28 []) from by kernel_rfl]
      refine wpAnyH_take (i := 28) (v := .int .i64 0) hop28 hNS (by rw [← hops]; kernel_rfl) (by rw [← hops]; kernel_rfl) (hQp _ _) (.inl ⟨(by rfl), fun wz hz => by
          have hW' := hz
          first | (go_simp; done) | (skip; go_simp)⟩) hW' ?_
      (try simp only [Act.put, List.setIfInBounds_toArray, List.set_cons_zero, List.set_cons_succ])
      rw [show (fsH 30 28 []).setIfInBounds 28 true = (fsH 30 29 []) from by kernel_rfl]
      refine wpAnyH_take (i := 29) (v := .int .i64 0) hop29 hNS (by rw [← hops]; kernel_rfl) (by rw [← hops]; kernel_rfl) (hQp _ _) (.inl ⟨(by rfl), fun wz hz => by
          have hW' := hz
          first | (go_simp; done) | (skip; go_simp)⟩) hW' ?_
      (try simp only [Act.put, List.setIfInBounds_toArray, List.set_cons_zero, List.set_cons_succ])
      rw [show (fsH 30 29 []).setIfInBounds 29 true = (fsH 30 30 []) from by kernel_rfl]
      refine wpAnyH_done (by rw [← hops]; kernel_rfl) ?_ _
      rw [← hQQ]
      exact NoPanic.normal (hQ0.out _ _ _ _ _ _ _ _ _ _ _ _ _ _ _ _ _ _ _ _ _ _ _ _ _ _ _ _ _ _ _ f21 g19 hW')
  have H26 : ∀ (s19 s20 s21 s81 s82 s83 s84 s85 s86 s87 s88 s89 s90 s91 s92 s93 s94 s95 s96 s97 s98 s99 s100 s101 s102 : Value) (a5 : Option Addr) (n5 : Nat) (c5 : Nat) (X : World), Below W0.heap.size W0 X → PrS st (.slice a5 n5 c5) X → wpAnyH Tryd.prog .any ops QQ (fun Z => Below W0.heap.size W0 Z) 4 (fsH 30 26 []) ({ tmps := #[.string T, .int .i64 kind, u2, u3, u4, u5, u6, u7, u8, u9, u10, u11, u12, u13, u14, .int .i64 (p : Nat), .string sepv, .string markv, .int .i64 (N : Nat), s19, s20, s21, u22, u23, u24, u25, u26, u27, u28, u29, u30, u31, u32, u33, u34, u35, u36, u37, u38, u39, u40, u41, u42, u43, u44, u45, u46, u47, u48, u49, u50, u51, u52, u53, u54, u55, u56, u57, u58, u59, u60, u61, u62, u63, u64, u65, u66, u67, u68, u69, u70, u71, u72, u73, u74, u75, u76, u77, u78, u79, u80, s81, s82, s83, s84, s85, s86, s87, s88, s89, s90, s91, s92, s93, s94, s95, s96, s97, s98, s99, s100, s101, s102, .tuple #[Tree.ptV (.slice a5 n5 c5) wq, .int .i64 0, .int .i64 0], Tree.ptV (.slice a5 n5 c5) wq, .int .i64 0, .int .i64 0, u107, u108, u109, u110, u111, u112, u113, u114, u115, u116, u117, u118, u119, u120, u121, u122, u123, u124, u125, u126, u127], defers := [] }) X := by
    as_aux_lemma =>
    intro s19 s20 s21 s81 s82 s83 s84 s85 s86 s87 s88 s89 s90 s91 s92 s93 s94 s95 s96 s97 s98 s99 s100 s101 s102 a5 n5 c5 X hW' f21
    refine wpAnyH_all (rs := [26]) (by rw [← hops]; kernel_rfl) (by simp) ?_
    intro ix hix
    simp only [List.mem_cons, List.not_mem_nil, or_false] at hix
    rcases hix with rfl
    · refine held_op hop26 (by rfl) (fun K' hK => ?_)
      go_simp
      have f19 : PbZ W0.heap.size X.heap.size (X.alloc (.cells #[.slice none 0 0, .int .i64 0] 25)) := ⟨hW'.size, World.alloc_heap_new X _⟩
      replace f21 := f21.later (Tree.kept_new X (.cells #[.slice none 0 0, .int .i64 0] 25))
      replace hW' := Tree.kept_trans hW' (Tree.kept_new X (.cells #[.slice none 0 0, .int .i64 0] 25))
      refine hK _ _ ⟨hW', ?_⟩
      clear hK K'
      (try simp only [Act.put, List.setIfInBounds_toArray, List.set_cons_zero, List.set_cons_succ])
      rw [show (fsH 30 26 []).setIfInBounds 26 true = (fsH 30 27 []) from by kernel_rfl]
      exact H27 _ _ _ _ _ _ _ _ _ _ _ _ _ _ _ _ _ _ _ _ _ _ _ _ _ _ _ _ _ hW' f21 f19
  have H21_26 : ∀ (s20 s21 s81 s82 s83 s84 s85 s86 s87 s88 s89 s90 s91 s92 s93 s94 s95 s96 s97 s98 s99 s100 s101 s103 s104 s105 s106 : Value) (p19 : Nat) (X : World), Below W0.heap.size W0 X → PbZ W0.heap.size p19 X → wpAnyH Tryd.prog .any ops QQ (fun Z => Below W0.heap.size W0 Z) 8 (fsH 30 21 [26]) ({ tmps := #[.string T, .int .i64 kind, u2, u3, u4, u5, u6, u7, u8, u9, u10, u11, u12, u13, u14, .int .i64 (p : Nat), .string sepv, .string markv, .int .i64 (N : Nat), .pointer (some ⟨p19, 0, none⟩), s20, s21, u22, u23, u24, u25, u26, u27, u28, u29, u30, u31, u32, u33, u34, u35, u36, u37, u38, u39, u40, u41, u42, u43, u44, u45, u46, u47, u48, u49, u50, u51, u52, u53, u54, u55, u56, u57, u58, u59, u60, u61, u62, u63, u64, u65, u66, u67, u68, u69, u70, u71, u72, u73, u74, u75, u76, u77, u78, u79, u80, s81, s82, s83, s84, s85, s86, s87, s88, s89, s90, s91, s92, s93, s94, s95, s96, s97, s98, s99, s100, s101, .string T5, s103, s104, s105, s106, u107, u108, u109, u110, u111, u112, u113, u114, u115, u116, u117, u118, u119, u120, u121, u122, u123, u124, u125, u126, u127], defers := [] }) X := by
    as_aux_lemma =>
    intro s20 s21 s81 s82 s83 s84 s85 s86 s87 s88 s89 s90 s91 s92 s93 s94 s95 s96 s97 s98 s99 s100 s101 s103 s104 s105 s106 p19 X hW' f19
    refine wpAnyH_all (rs := [21]) (by rw [← hops]; kernel_rfl) (by simp) ?_
    intro ix hix
    simp only [List.mem_cons, List.not_mem_nil, or_false] at hix
    rcases hix with rfl
    · refine held_op hop21 (by rfl) (fun K' hK => ?_)
      go_simp
      refine (D21.out X hW').mono ?_
      rintro e Y ⟨a5, n5, c5, rfl, f21, hb⟩
      dsimp only
      replace f19 := f19.later hb
      replace hW' := Tree.kept_trans hW' hb
      refine hK _ _ ⟨hW', ?_⟩
      clear hK K'
      (try simp only [Act.put, List.setIfInBounds_toArray, List.set_cons_zero, List.set_cons_succ])
      rw [show (fsH 30 21 [26]).setIfInBounds 21 true = (fsH 30 22 [26]) from by kernel_rfl]
      refine wpAnyH_take (i := 22) (v := .tuple #[Tree.ptV (.slice a5 n5 c5) wq, .int .i64 0, .int .i64 0]) hop22 hNS (by rw [← hops]; kernel_rfl) (by rw [← hops]; kernel_rfl) (hQp _ _) (.inl ⟨(by rfl), fun wz hz => by
          have hW' := hz
          first | (go_simp; done) | (skip; go_simp)⟩) hW' ?_
      (try simp only [Act.put, List.setIfInBounds_toArray, List.set_cons_zero, List.set_cons_succ])
      rw [show (fsH 30 22 [26]).setIfInBounds 22 true = (fsH 30 23 [26]) from by kernel_rfl]
      refine wpAnyH_take (i := 23) (v := Tree.ptV (.slice a5 n5 c5) wq) hop23 hNS (by rw [← hops]; kernel_rfl) (by rw [← hops]; kernel_rfl) (hQp _ _) (.inl ⟨(by rfl), fun wz hz => by
          have hW' := hz
          first | (go_simp; done) | (skip; go_simp)⟩) hW' ?_
      (try simp only [Act.put, List.setIfInBounds_toArray, List.set_cons_zero, List.set_cons_succ])
      rw [show (fsH 30 23 [26]).setIfInBounds 23 true = (fsH 30 24 [26]) from by kernel_rfl]
      refine wpAnyH_take (i := 24) (v := .int .i64 0) hop24 hNS (by rw [← hops]; kernel_rfl) (by rw [← hops]; kernel_rfl) (hQp _ _) (.inl ⟨(by rfl), fun wz hz => by
          have hW' := hz
          first | (go_simp; done) | (skip; go_simp)⟩) hW' ?_
      (try simp only [Act.put, List.setIfInBounds_toArray, List.set_cons_zero, List.set_cons_succ])
      rw [show (fsH 30 24 [26]).setIfInBounds 24 true = (fsH 30 25 [26]) from by kernel_rfl]
      refine wpAnyH_take (i := 25) (v := .int .i64 0) hop25 hNS (by rw [← hops]; kernel_rfl) (by rw [← hops]; kernel_rfl) (hQp _ _) (.inl ⟨(by rfl), fun wz hz => by
          have hW' := hz
          first | (go_simp; done) | (skip; go_simp)⟩) hW' ?_
      (try simp only [Act.put, List.setIfInBounds_toArray, List.set_cons_zero, List.set_cons_succ])
      rw [show (fsH 30 25 [26]).setIfInBounds 25 true = (fsH 30 27 []) from by kernel_rfl]
      exact H27 _ _ _ _ _ _ _ _ _ _ _ _ _ _ _ _ _ _ _ _ _ _ _ _ _ _ _ _ _ hW' f21 f19
  have H21 : ∀ (s19 s20 s21 s81 s82 s83 s84 s85 s86 s87 s88 s89 s90 s91 s92 s93 s94 s95 s96 s97 s98 s99 s100 s101 s103 s104 s105 s106 : Value) (X : World), Below W0.heap.size W0 X → wpAnyH Tryd.prog .any ops QQ (fun Z => Below W0.heap.size W0 Z) 9 (fsH 30 21 []) ({ tmps := #[.string T, .int .i64 kind, u2, u3, u4, u5, u6, u7, u8, u9, u10, u11, u12, u13, u14, .int .i64 (p : Nat), .string sepv, .string markv, .int .i64 (N : Nat), s19, s20, s21, u22, u23, u24, u25, u26, u27, u28, u29, u30, u31, u32, u33, u34, u35, u36, u37, u38, u39, u40, u41, u42, u43, u44, u45, u46, u47, u48, u49, u50, u51, u52, u53, u54, u55, u56, u57, u58, u59, u60, u61, u62, u63, u64, u65, u66, u67, u68, u69, u70, u71, u72, u73, u74, u75, u76, u77, u78, u79, u80, s81, s82, s83, s84, s85, s86, s87, s88, s89, s90, s91, s92, s93, s94, s95, s96, s97, s98, s99, s100, s101, .string T5, s103, s104, s105, s106, u107, u108, u109, u110, u111, u112, u113, u114, u115, u116, u117, u118, u119, u120, u121, u122, u123, u124, u125, u126, u127], defers := [] }) X := by
    as_aux_lemma =>
    intro s19 s20 s21 s81 s82 s83 s84 s85 s86 s87 s88 s89 s90 s91 s92 s93 s94 s95 s96 s97 s98 s99 s100 s101 s103 s104 s105 s106 X hW'
    refine wpAnyH_all (rs := [21, 26]) (by rw [← hops]; kernel_rfl) (by simp) ?_
    intro ix hix
    simp only [List.mem_cons, List.not_mem_nil, or_false] at hix
    rcases hix with rfl | rfl
    · refine held_op hop21 (by rfl) (fun K' hK => ?_)
      go_simp
      refine (D21.out X hW').mono ?_
      rintro e Y ⟨a5, n5, c5, rfl, f21, hb⟩
      dsimp only
      replace hW' := Tree.kept_trans hW' hb
      refine hK _ _ ⟨hW', ?_⟩
      clear hK K'
      (try simp only [Act.put, List.setIfInBounds_toArray, List.set_cons_zero, List.set_cons_succ])
      rw [show (fsH 30 21 []).setIfInBounds 21 true = (fsH 30 22 []) from by kernel_rfl]
      refine wpAnyH_take (i := 22) (v := .tuple #[Tree.ptV (.slice a5 n5 c5) wq, .int .i64 0, .int .i64 0]) hop22 hNS (by rw [← hops]; kernel_rfl) (by rw [← hops]; kernel_rfl) (hQp _ _) (.inl ⟨(by rfl), fun wz hz => by
          have hW' := hz
          first | (go_simp; done) | (skip; go_simp)⟩) hW' ?_
      (try simp only [Act.put, List.setIfInBounds_toArray, List.set_cons_zero, List.set_cons_succ])
      rw [show (fsH 30 22 []).setIfInBounds 22 true = (fsH 30 23 []) from by kernel_rfl]
      refine wpAnyH_take (i := 23) (v := Tree.ptV (.slice a5 n5 c5) wq) hop23 hNS (by rw [← hops]; kernel_rfl) (by rw [← hops]; kernel_rfl) (hQp _ _) (.inl ⟨(by rfl), fun wz hz => by
          have hW' := hz
          first | (go_simp; done) | (skip; go_simp)⟩) hW' ?_
      (try simp only [Act.put, List.setIfInBounds_toArray, List.set_cons_zero, List.set_cons_succ])
      rw [show (fsH 30 23 []).setIfInBounds 23 true = (fsH 30 24 []) from by kernel_rfl]
      refine wpAnyH_take (i := 24) (v := .int .i64 0) hop24 hNS (by rw [← hops]; kernel_rfl) (by rw [← hops]; kernel_rfl) (hQp _ _) (.inl ⟨(by rfl), fun wz hz => by
          have hW' := hz
          first | (go_simp; done) | (skip; go_simp)⟩) hW' ?_
      (try simp only [Act.put, List.setIfInBounds_toArray, List.set_cons_zero, List.set_cons_succ])
      rw [show (fsH 30 24 []).setIfInBounds 24 true = (fsH 30 25 []) from by kernel_rfl]
      refine wpAnyH_take (i := 25) (v := .int .i64 0) hop25 hNS (by rw [← hops]; kernel_rfl) (by rw [← hops]; kernel_rfl) (hQp _ _) (.inl ⟨(by rfl), fun wz hz => by
          have hW' := hz
          first | (go_simp; done) | (skip; go_simp)⟩) hW' ?_
      (try simp only [Act.put, List.setIfInBounds_toArray, List.set_cons_zero, List.set_cons_succ])
      rw [show (fsH 30 25 []).setIfInBounds 25 true = (fsH 30 26 []) from by kernel_rfl]
      exact H26 _ _ _ _ _ _ _ _ _ _ _ _ _ _ _ _ _ _ _ _ _ _ _ _ _ _ _ _ _ hW' f21
    · refine held_op hop26 (by rfl) (fun K' hK => ?_)
      go_simp
      have f19 : PbZ W0.heap.size X.heap.size (X.alloc (.cells #[.slice none 0 0, .int .i64 0] 25)) := ⟨hW'.size, World.alloc_heap_new X _⟩
      replace hW' := Tree.kept_trans hW' (Tree.kept_new X (.cells #[.slice none 0 0, .int .i64 0] 25))
      refine hK _ _ ⟨hW', ?_⟩
      clear hK K'
      (try simp only [Act.put, List.setIfInBounds_toArray, List.set_cons_zero, List.set_cons_succ])
      rw [show (fsH 30 21 []).setIfInBounds 26 true = (fsH 30 21 [26]) from by kernel_rfl]
      exact H21_26 _ _ _ _ _ _ _ _ _ _ _ _ _ _ _ _ _ _ _ _ _ _ _ _ _ _ _ _ _ hW' f19
  have H14_17_18_19_26 : ∀ (s20 s21 s81 s82 s83 s84 s85 s86 s87 s89 s90 s91 s92 s93 s94 s96 s97 s98 s99 s100 s102 s103 s104 s105 s106 : Value) (p95 : Nat) (p19 : Nat) (X : World), Below W0.heap.size W0 X → ByK p95 k8 n8 X → PbZ W0.heap.size p19 X → wpAnyH Tryd.prog .any ops QQ (fun Z => Below W0.heap.size W0 Z) 12 (fsH 30 14 [17, 18, 19, 26]) ({ tmps := #[.string T, .int .i64 kind, u2, u3, u4, u5, u6, u7, u8, u9, u10, u11, u12, u13, u14, .int .i64 (p : Nat), .string sepv, .string markv, .int .i64 (N : Nat), .pointer (some ⟨p19, 0, none⟩), s20, s21, u22, u23, u24, u25, u26, u27, u28, u29, u30, u31, u32, u33, u34, u35, u36, u37, u38, u39, u40, u41, u42, u43, u44, u45, u46, u47, u48, u49, u50, u51, u52, u53, u54, u55, u56, u57, u58, u59, u60, u61, u62, u63, u64, u65, u66, u67, u68, u69, u70, u71, u72, u73, u74, u75, u76, u77, u78, u79, u80, s81, s82, s83, s84, s85, s86, s87, .string T2, s89, s90, s91, s92, s93, s94, .slice (some ⟨p95, 0, none⟩) 2 2, s96, s97, s98, s99, s100, .string A3, s102, s103, s104, s105, s106, u107, u108, u109, u110, u111, u112, u113, u114, u115, u116, u117, u118, u119, u120, u121, u122, u123, u124, u125, u126, u127], defers := [] }) X := by
    as_aux_lemma =>
    intro s20 s21 s81 s82 s83 s84 s85 s86 s87 s89 s90 s91 s92 s93 s94 s96 s97 s98 s99 s100 s102 s103 s104 s105 s106 p95 p19 X hW' f95 f19
    refine wpAnyH_all (rs := [14]) (by rw [← hops]; kernel_rfl) (by simp) ?_
    intro ix hix
    simp only [List.mem_cons, List.not_mem_nil, or_false] at hix
    rcases hix with rfl
    · refine held_op hop14 (by rfl) (fun K' hK => ?_)
      refine conv_op (.tmp 95) k8 n8 p95 rfl (by rfl) f95 ?_
      rw [hB2]
      refine hK _ _ ⟨hW', ?_⟩
      clear hK K'
      (try simp only [Act.put, List.setIfInBounds_toArray, List.set_cons_zero, List.set_cons_succ])
      rw [show (fsH 30 14 [17, 18, 19, 26]).setIfInBounds 14 true = (fsH 30 15 [17, 18, 19, 26]) from by kernel_rfl]
      refine wpAnyH_take (i := 15) (v := .string T3) hop15 hNS (by rw [← hops]; kernel_rfl) (by rw [← hops]; kernel_rfl) (hQp _ _) (.inl ⟨(by rfl), fun wz hz => by
          have hW' := hz
          first | (go_simp; done) | (skip; go_simp)⟩) hW' ?_
      (try simp only [Act.put, List.setIfInBounds_toArray, List.set_cons_zero, List.set_cons_succ])
      rw [show (fsH 30 15 [17, 18, 19, 26]).setIfInBounds 15 true = (fsH 30 16 [17, 18, 19, 26]) from by kernel_rfl]
      refine wpAnyH_take (i := 16) (v := .string T4) hop16 hNS (by rw [← hops]; kernel_rfl) (by rw [← hops]; kernel_rfl) (hQp _ _) (.inl ⟨(by rfl), fun wz hz => by
          have hW' := hz
          first | (go_simp; done) | (skip; go_simp)⟩) hW' ?_
      (try simp only [Act.put, List.setIfInBounds_toArray, List.set_cons_zero, List.set_cons_succ])
      rw [show (fsH 30 16 [17, 18, 19, 26]).setIfInBounds 16 true = (fsH 30 20 [26]) from by kernel_rfl]
      refine wpAnyH_take (i := 20) (v := .string T5) hop20 hNS (by rw [← hops]; kernel_rfl) (by rw [← hops]; kernel_rfl) (hQp _ _) (.inl ⟨(by rfl), fun wz hz => by
          have hW' := hz
          first | (go_simp; done) | (skip; go_simp)⟩) hW' ?_
      (try simp only [Act.put, List.setIfInBounds_toArray, List.set_cons_zero, List.set_cons_succ])
      rw [show (fsH 30 20 [26]).setIfInBounds 20 true = (fsH 30 21 [26]) from by kernel_rfl]
      exact H21_26 _ _ _ _ _ _ _ _ _ _ _ _ _ _ _ _ _ _ _ _ _ _ _ _ _ _ _ _ _ hW' f19
  have H13_17_18_19_26 : ∀ (s20 s21 s81 s82 s83 s84 s85 s86 s87 s89 s90 s92 s93 s95 s96 s97 s98 s99 s100 s102 s103 s104 s105 s106 : Value) (p19 : Nat) (X : World), Below W0.heap.size W0 X → PbZ W0.heap.size p19 X → wpAnyH Tryd.prog .any ops QQ (fun Z => Below W0.heap.size W0 Z) 13 (fsH 30 13 [17, 18, 19, 26]) ({ tmps := #[.string T, .int .i64 kind, u2, u3, u4, u5, u6, u7, u8, u9, u10, u11, u12, u13, u14, .int .i64 (p : Nat), .string sepv, .string markv, .int .i64 (N : Nat), .pointer (some ⟨p19, 0, none⟩), s20, s21, u22, u23, u24, u25, u26, u27, u28, u29, u30, u31, u32, u33, u34, u35, u36, u37, u38, u39, u40, u41, u42, u43, u44, u45, u46, u47, u48, u49, u50, u51, u52, u53, u54, u55, u56, u57, u58, u59, u60, u61, u62, u63, u64, u65, u66, u67, u68, u69, u70, u71, u72, u73, u74, u75, u76, u77, u78, u79, u80, s81, s82, s83, s84, s85, s86, s87, .string T2, s89, s90, .int .u8 k8, s92, s93, .int .u8 n8, s95, s96, s97, s98, s99, s100, .string A3, s102, s103, s104, s105, s106, u107, u108, u109, u110, u111, u112, u113, u114, u115, u116, u117, u118, u119, u120, u121, u122, u123, u124, u125, u126, u127], defers := [] }) X := by
    as_aux_lemma =>
    intro s20 s21 s81 s82 s83 s84 s85 s86 s87 s89 s90 s92 s93 s95 s96 s97 s98 s99 s100 s102 s103 s104 s105 s106 p19 X hW' f19
    refine wpAnyH_all (rs := [13]) (by rw [← hops]; kernel_rfl) (by simp) ?_
    intro ix hix
    simp only [List.mem_cons, List.not_mem_nil, or_false] at hix
    rcases hix with rfl
    · refine held_op hop13 (by rfl) (fun K' hK => ?_)
      go_simp
      have f95 : ByK X.heap.size k8 n8 (X.alloc (.cells #[.int .u8 k8, .int .u8 n8] 5)) := World.alloc_heap_new X _
      replace f19 := f19.later (Tree.kept_new X (.cells #[.int .u8 k8, .int .u8 n8] 5))
      replace hW' := Tree.kept_trans hW' (Tree.kept_new X (.cells #[.int .u8 k8, .int .u8 n8] 5))
      refine hK _ _ ⟨hW', ?_⟩
      clear hK K'
      (try simp only [Act.put, List.setIfInBounds_toArray, List.set_cons_zero, List.set_cons_succ])
      rw [show (fsH 30 13 [17, 18, 19, 26]).setIfInBounds 13 true = (fsH 30 14 [17, 18, 19, 26]) from by kernel_rfl]
      exact H14_17_18_19_26 _ _ _ _ _ _ _ _ _ _ _ _ _ _ _ _ _ _ _ _ _ _ _ _ _ _ _ _ hW' f95 f19
  have H14_17_18_19 : ∀ (s19 s20 s21 s81 s82 s83 s84 s85 s86 s87 s89 s90 s91 s92 s93 s94 s96 s97 s98 s99 s100 s102 s103 s104 s105 s106 : Value) (p95 : Nat) (X : World), Below W0.heap.size W0 X → ByK p95 k8 n8 X → wpAnyH Tryd.prog .any ops QQ (fun Z => Below W0.heap.size W0 Z) 13 (fsH 30 14 [17, 18, 19]) ({ tmps := #[.string T, .int .i64 kind, u2, u3, u4, u5, u6, u7, u8, u9, u10, u11, u12, u13, u14, .int .i64 (p : Nat), .string sepv, .string markv, .int .i64 (N : Nat), s19, s20, s21, u22, u23, u24, u25, u26, u27, u28, u29, u30, u31, u32, u33, u34, u35, u36, u37, u38, u39, u40, u41, u42, u43, u44, u45, u46, u47, u48, u49, u50, u51, u52, u53, u54, u55, u56, u57, u58, u59, u60, u61, u62, u63, u64, u65, u66, u67, u68, u69, u70, u71, u72, u73, u74, u75, u76, u77, u78, u79, u80, s81, s82, s83, s84, s85, s86, s87, .string T2, s89, s90, s91, s92, s93, s94, .slice (some ⟨p95, 0, none⟩) 2 2, s96, s97, s98, s99, s100, .string A3, s102, s103, s104, s105, s106, u107, u108, u109, u110, u111, u112, u113, u114, u115, u116, u117, u118, u119, u120, u121, u122, u123, u124, u125, u126, u127], defers := [] }) X := by
    as_aux_lemma =>
    intro s19 s20 s21 s81 s82 s83 s84 s85 s86 s87 s89 s90 s91 s92 s93 s94 s96 s97 s98 s99 s100 s102 s103 s104 s105 s106 p95 X hW' f95
    refine wpAnyH_all (rs := [14, 26]) (by rw [← hops]; kernel_rfl) (by simp) ?_
    intro ix hix
    simp only [List.mem_cons, List.not_mem_nil, or_false] at hix
    rcases hix with rfl | rfl
    · refine held_op hop14 (by rfl) (fun K' hK => ?_)
      refine conv_op (.tmp 95) k8 n8 p95 rfl (by rfl) f95 ?_
      rw [hB2]
      refine hK _ _ ⟨hW', ?_⟩
      clear hK K'
      (try simp only [Act.put, List.setIfInBounds_toArray, List.set_cons_zero, List.set_cons_succ])
      rw [show (fsH 30 14 [17, 18, 19]).setIfInBounds 14 true = (fsH 30 15 [17, 18, 19]) from by kernel_rfl]
      refine wpAnyH_take (i := 15) (v := .string T3) hop15 hNS (by rw [← hops]; kernel_rfl) (by rw [← hops]; kernel_rfl) (hQp _ _) (.inl ⟨(by rfl), fun wz hz => by
          have hW' := hz
          first | (go_simp; done) | (skip; go_simp)⟩) hW' ?_
      (try simp only [Act.put, List.setIfInBounds_toArray, List.set_cons_zero, List.set_cons_succ])
      rw [show (fsH 30 15 [17, 18, 19]).setIfInBounds 15 true = (fsH 30 16 [17, 18, 19]) from by kernel_rfl]
      refine wpAnyH_take (i := 16) (v := .string T4) hop16 hNS (by rw [← hops]; kernel_rfl) (by rw [← hops]; kernel_rfl) (hQp _ _) (.inl ⟨(by rfl), fun wz hz => by
          have hW' := hz
          first | (go_simp; done) | (skip; go_simp)⟩) hW' ?_
      (try simp only [Act.put, List.setIfInBounds_toArray, List.set_cons_zero, List.set_cons_succ])
      rw [show (fsH 30 16 [17, 18, 19]).setIfInBounds 16 true = (fsH 30 20 []) from by kernel_rfl]
      refine wpAnyH_take (i := 20) (v := .string T5) hop20 hNS (by rw [← hops]; kernel_rfl) (by rw [← hops]; kernel_rfl) (hQp _ _) (.inl ⟨(by rfl), fun wz hz => by
          have hW' := hz
          first | (go_simp; done) | (skip; go_simp)⟩) hW' ?_
      (try simp only [Act.put, List.setIfInBounds_toArray, List.set_cons_zero, List.set_cons_succ])
      rw [show (fsH 30 20 []).setIfInBounds 20 true = (fsH 30 21 []) from by kernel_rfl]
      exact H21 _ _ _ _ _ _ _ _ _ _ _ _ _ _ _ _ _ _ _ _ _ _ _ _ _ _ _ _ _ hW' 
    · refine held_op hop26 (by rfl) (fun K' hK => ?_)
      go_simp
      have f19 : PbZ W0.heap.size X.heap.size (X.alloc (.cells #[.slice none 0 0, .int .i64 0] 25)) := ⟨hW'.size, World.alloc_heap_new X _⟩
      replace f95 := f95.later (Tree.kept_new X (.cells #[.slice none 0 0, .int .i64 0] 25))
      replace hW' := Tree.kept_trans hW' (Tree.kept_new X (.cells #[.slice none 0 0, .int .i64 0] 25))
      refine hK _ _ ⟨hW', ?_⟩
      clear hK K'
      (try simp only [Act.put, List.setIfInBounds_toArray, List.set_cons_zero, List.set_cons_succ])
      rw [show (fsH 30 14 [17, 18, 19]).setIfInBounds 26 true = (fsH 30 14 [17, 18, 19, 26]) from by kernel_rfl]
      exact H14_17_18_19_26 _ _ _ _ _ _ _ _ _ _ _ _ _ _ _ _ _ _ _ _ _ _ _ _ _ _ _ _ hW' f95 f19
  have H13_17_18_19 : ∀ (s19 s20 s21 s81 s82 s83 s84 s85 s86 s87 s89 s90 s92 s93 s95 s96 s97 s98 s99 s100 s102 s103 s104 s105 s106 : Value) (X : World), Below W0.heap.size W0 X → wpAnyH Tryd.prog .any ops QQ (fun Z => Below W0.heap.size W0 Z) 14 (fsH 30 13 [17, 18, 19]) ({ tmps := #[.string T, .int .i64 kind, u2, u3, u4, u5, u6, u7, u8, u9, u10, u11, u12, u13, u14, .int .i64 (p : Nat), .string sepv, .string markv, .int .i64 (N : Nat), s19, s20, s21, u22, u23, u24, u25, u26, u27, u28, u29, u30, u31, u32, u33, u34, u35, u36, u37, u38, u39, u40, u41, u42, u43, u44, u45, u46, u47, u48, u49, u50, u51, u52, u53, u54, u55, u56, u57, u58, u59, u60, u61, u62, u63, u64, u65, u66, u67, u68, u69, u70, u71, u72, u73, u74, u75, u76, u77, u78, u79, u80, s81, s82, s83, s84, s85, s86, s87, .string T2, s89, s90, .int .u8 k8, s92, s93, .int .u8 n8, s95, s96, s97, s98, s99, s100, .string A3, s102, s103, s104, s105, s106, u107, u108, u109, u110, u111, u112, u113, u114, u115, u116, u117, u118, u119, u120, u121, u122, u123, u124, u125, u126, u127], defers := [] }) X := by
    as_aux_lemma =>
    intro s19 s20 s21 s81 s82 s83 s84 s85 s86 s87 s89 s90 s92 s93 s95 s96 s97 s98 s99 s100 s102 s103 s104 s105 s106 X hW'
    refine wpAnyH_all (rs := [13, 26]) (by rw [← hops]; kernel_rfl) (by simp) ?_
    intro ix hix
    simp only [List.mem_cons, List.not_mem_nil, or_false] at hix
    rcases hix with rfl | rfl
    · refine held_op hop13 (by rfl) (fun K' hK => ?_)
      go_simp
      have f95 : ByK X.heap.size k8 n8 (X.alloc (.cells #[.int .u8 k8, .int .u8 n8] 5)) := World.alloc_heap_new X _
      replace hW' := Tree.kept_trans hW' (Tree.kept_new X (.cells #[.int .u8 k8, .int .u8 n8] 5))
      refine hK _ _ ⟨hW', ?_⟩
      clear hK K'
      (try simp only [Act.put, List.setIfInBounds_toArray, List.set_cons_zero, List.set_cons_succ])
      rw [show (fsH 30 13 [17, 18, 19]).setIfInBounds 13 true = (fsH 30 14 [17, 18, 19]) from by kernel_rfl]
      exact H14_17_18_19 _ _ _ _ _ _ _ _ _ _ _ _ _ _ _ _ _ _ _ _ _ _ _ _ _ _ _ _ hW' f95
    · refine held_op hop26 (by rfl) (fun K' hK => ?_)
      go_simp
      have f19 : PbZ W0.heap.size X.heap.size (X.alloc (.cells #[.slice none 0 0, .int .i64 0] 25)) := ⟨hW'.size, World.alloc_heap_new X _⟩
      replace hW' := Tree.kept_trans hW' (Tree.kept_new X (.cells #[.slice none 0 0, .int .i64 0] 25))
      refine hK _ _ ⟨hW', ?_⟩
      clear hK K'
      (try simp only [Act.put, List.setIfInBounds_toArray, List.set_cons_zero, List.set_cons_succ])
      rw [show (fsH 30 13 [17, 18, 19]).setIfInBounds 26 true = (fsH 30 13 [17, 18, 19, 26]) from by kernel_rfl]
      exact H13_17_18_19_26 _ _ _ _ _ _ _ _ _ _ _ _ _ _ _ _ _ _ _ _ _ _ _ _ _ _ hW' f19
  have hsz : ops.size = 30 := by rw [← hops]; rfl
  rw [hsz]
  rw [show Array.replicate 30 false = (fsH 30 0 []) from by rfl]
  refine wpAnyH_take (i := 0) (v := .string T) hop0 hNS (by rw [← hops]; kernel_rfl) (by rw [← hops]; kernel_rfl) (hQp _ _) (.inl ⟨(by rfl), fun wz hz => by
      have hW' := hz
      first | (go_simp; done) | (skip; go_simp)⟩) hW' ?_
  (try simp only [Act.put, List.setIfInBounds_toArray, List.set_cons_zero, List.set_cons_succ])
  rw [show (fsH 30 0 []).setIfInBounds 0 true = (fsH 30 1 []) from by kernel_rfl]
  refine wpAnyH_take (i := 1) (v := .int .i64 p) hop1 hNS (by rw [← hops]; kernel_rfl) (by rw [← hops]; kernel_rfl) (hQp _ _) (.inl ⟨(by rfl), fun wz hz => by
      have hW' := hz
      first | (go_simp; done) | (skip; go_simp)⟩) hW' ?_
  (try simp only [Act.put, List.setIfInBounds_toArray, List.set_cons_zero, List.set_cons_succ])
  rw [show (fsH 30 1 []).setIfInBounds 1 true = (fsH 30 2 []) from by kernel_rfl]
  refine wpAnyH_take (i := 2) (v := .string A1) hop2 hNS (by rw [← hops]; kernel_rfl) (by rw [← hops]; kernel_rfl) (hQp _ _) (.inl ⟨(by rfl), fun wz hz => by
      have hW' := hz
      first | (go_simp; done) | (skip; go_simp)⟩) hW' ?_
  (try simp only [Act.put, List.setIfInBounds_toArray, List.set_cons_zero, List.set_cons_succ])
  rw [show (fsH 30 2 []).setIfInBounds 2 true = (fsH 30 3 []) from by kernel_rfl]
  refine wpAnyH_take (i := 3) (v := .string sepv) hop3 hNS (by rw [← hops]; kernel_rfl) (by rw [← hops]; kernel_rfl) (hQp _ _) (.inl ⟨(by rfl), fun wz hz => by
      have hW' := hz
      first | (go_simp; done) | (skip; go_simp)⟩) hW' ?_
  (try simp only [Act.put, List.setIfInBounds_toArray, List.set_cons_zero, List.set_cons_succ])
  rw [show (fsH 30 3 []).setIfInBounds 3 true = (fsH 30 4 []) from by kernel_rfl]
  refine wpAnyH_take (i := 4) (v := .string T1) hop4 hNS (by rw [← hops]; kernel_rfl) (by rw [← hops]; kernel_rfl) (hQp _ _) (.inl ⟨(by rfl), fun wz hz => by
      have hW' := hz
      first | (go_simp; done) | (skip; go_simp)⟩) hW' ?_
  (try simp only [Act.put, List.setIfInBounds_toArray, List.set_cons_zero, List.set_cons_succ])
  rw [show (fsH 30 4 []).setIfInBounds 4 true = (fsH 30 5 []) from by kernel_rfl]
  refine wpAnyH_take (i := 5) (v := .string markv) hop5 hNS (by rw [← hops]; kernel_rfl) (by rw [← hops]; kernel_rfl) (hQp _ _) (.inl ⟨(by rfl), fun wz hz => by
      have hW' := hz
      first | (go_simp; done) | (skip; go_simp)⟩) hW' ?_
  (try simp only [Act.put, List.setIfInBounds_toArray, List.set_cons_zero, List.set_cons_succ])
  rw [show (fsH 30 5 []).setIfInBounds 5 true = (fsH 30 6 []) from by kernel_rfl]
  refine wpAnyH_take (i := 6) (v := .string T2) hop6 hNS (by rw [← hops]; kernel_rfl) (by rw [← hops]; kernel_rfl) (hQp _ _) (.inl ⟨(by rfl), fun wz hz => by
      have hW' := hz
      first | (go_simp; done) | (skip; go_simp)⟩) hW' ?_
  (try simp only [Act.put, List.setIfInBounds_toArray, List.set_cons_zero, List.set_cons_succ])
  rw [show (fsH 30 6 []).setIfInBounds 6 true = (fsH 30 7 []) from by kernel_rfl]
  refine wpAnyH_take (i := 7) (v := .int .i64 kind) hop7 hNS (by rw [← hops]; kernel_rfl) (by rw [← hops]; kernel_rfl) (hQp _ _) (.inl ⟨(by rfl), fun wz hz => by
      have hW' := hz
      first | (go_simp; done) | (skip; go_simp)⟩) hW' ?_
  (try simp only [Act.put, List.setIfInBounds_toArray, List.set_cons_zero, List.set_cons_succ])
  rw [show (fsH 30 7 []).setIfInBounds 7 true = (fsH 30 8 []) from by kernel_rfl]
  refine wpAnyH_take (i := 8) (v := .int .i64 k8) hop8 hNS (by rw [← hops]; kernel_rfl) (by rw [← hops]; kernel_rfl) (hQp _ _) (.inl ⟨(by rfl), fun wz hz => by
      have hW' := hz
      first | (go_simp; done) | (skip; go_simp)⟩) hW' ?_
  (try simp only [Act.put, List.setIfInBounds_toArray, List.set_cons_zero, List.set_cons_succ])
  rw [show (fsH 30 8 []).setIfInBounds 8 true = (fsH 30 9 []) from by kernel_rfl]
  refine wpAnyH_take (i := 9) (v := .int .u8 k8) hop9 hNS (by rw [← hops]; kernel_rfl) (by rw [← hops]; kernel_rfl) (hQp _ _) (.inl ⟨(by rfl), fun wz hz => by
      have hW' := hz
      first | (go_simp; done) | (skip; go_simp)⟩) hW' ?_
  (try simp only [Act.put, List.setIfInBounds_toArray, List.set_cons_zero, List.set_cons_succ])
  rw [show (fsH 30 9 []).setIfInBounds 9 true = (fsH 30 10 []) from by kernel_rfl]
  refine wpAnyH_take (i := 10) (v := .int .i64 N) hop10 hNS (by rw [← hops]; kernel_rfl) (by rw [← hops]; kernel_rfl) (hQp _ _) (.inl ⟨(by rfl), fun wz hz => by
      have hW' := hz
      first | (go_simp; done) | (skip; go_simp)⟩) hW' ?_
  (try simp only [Act.put, List.setIfInBounds_toArray, List.set_cons_zero, List.set_cons_succ])
  rw [show (fsH 30 10 []).setIfInBounds 10 true = (fsH 30 11 []) from by kernel_rfl]
  refine wpAnyH_take (i := 11) (v := .int .i64 n8) hop11 hNS (by rw [← hops]; kernel_rfl) (by rw [← hops]; kernel_rfl) (hQp _ _) (.inl ⟨(by rfl), fun wz hz => by
      have hW' := hz
      first | (go_simp; done) | (skip; go_simp)⟩) hW' ?_
  (try simp only [Act.put, List.setIfInBounds_toArray, List.set_cons_zero, List.set_cons_succ])
  rw [show (fsH 30 11 []).setIfInBounds 11 true = (fsH 30 12 []) from by kernel_rfl]
  refine wpAnyH_take (i := 12) (v := .int .u8 n8) hop12 hNS (by rw [← hops]; kernel_rfl) (by rw [← hops]; kernel_rfl) (hQp _ _) (.inl ⟨(by rfl), fun wz hz => by
      have hW' := hz
      first | (go_simp; done) | (skip; go_simp)⟩) hW' ?_
  (try simp only [Act.put, List.setIfInBounds_toArray, List.set_cons_zero, List.set_cons_succ])
  rw [show (fsH 30 12 []).setIfInBounds 12 true = (fsH 30 13 []) from by kernel_rfl]
  refine wpAnyH_take (i := 17) (v := .string T) hop17 hNS (by rw [← hops]; kernel_rfl) (by rw [← hops]; kernel_rfl) (hQp _ _) (.inl ⟨(by rfl), fun wz hz => by
      have hW' := hz
      first | (go_simp; done) | (skip; go_simp)⟩) hW' ?_
  (try simp only [Act.put, List.setIfInBounds_toArray, List.set_cons_zero, List.set_cons_succ])
  rw [show (fsH 30 13 []).setIfInBounds 17 true = (fsH 30 13 [17]) from by kernel_rfl]
  refine wpAnyH_take (i := 18) (v := .int .i64 p) hop18 hNS (by rw [← hops]; kernel_rfl) (by rw [← hops]; kernel_rfl) (hQp _ _) (.inl ⟨(by rfl), fun wz hz => by
      have hW' := hz
      first | (go_simp; done) | (skip; go_simp)⟩) hW' ?_
  (try simp only [Act.put, List.setIfInBounds_toArray, List.set_cons_zero, List.set_cons_succ])
  rw [show (fsH 30 13 [17]).setIfInBounds 18 true = (fsH 30 13 [17, 18]) from by kernel_rfl]
  refine wpAnyH_take (i := 19) (v := .string A3) hop19 hNS (by rw [← hops]; kernel_rfl) (by rw [← hops]; kernel_rfl) (hQp _ _) (.inl ⟨(by rfl), fun wz hz => by
      have hW' := hz
      first | (go_simp; done) | (skip; go_simp)⟩) hW' ?_
  (try simp only [Act.put, List.setIfInBounds_toArray, List.set_cons_zero, List.set_cons_succ])
  rw [show (fsH 30 13 [17, 18]).setIfInBounds 19 true = (fsH 30 13 [17, 18, 19]) from by kernel_rfl]
  exact H13_17_18_19 _ _ _ _ _ _ _ _ _ _ _ _ _ _ _ _ _ _ _ _ _ _ _ _ _ _ hW' 
end Go.Proofs.YtkedifhlkiffoaaDoor.parseMore
namespace Go.Proofs.YtkedifhlkiffoaaDoor.parseMore
open Go.ChangeShapes Go.WideShapes Go.ChangeAt Go.RowKit
open Go.ChangeMaps (open_string shut_string)
open Tree (Tm Cp Sp)
set_option linter.unusedVariables false
set_option linter.unusedSimpArgs false
set_option maxRecDepth 100000
attribute [local go_sem] Oper.semAt_some
theorem box_later {X Y : World} {p : Nat} {a b : Value} {t : TypeId} (hq : X.heap[p]? = some (.cells #[a, b] t (0, 0))) (hb : Below X.heap.size X Y) :
    Y.heap[p]? = some (.cells #[a, b] t (0, 0)) ∧ Y.cell? ⟨p, 0, none⟩ = some a ∧ Y.cell? ⟨p, 1, none⟩ = some b ∧ ∀ i, Y.frozen? ⟨p, i, none⟩ = false := by
  have h := (hb.block p (Array.getElem?_eq_some_iff.1 hq).1).trans hq
  refine ⟨h, ?_, ?_, fun i => ?_⟩
  · simp [World.cell?, h]
  · simp [World.cell?, h]
  · simp [World.frozen?, h]
theorem pat_len {ts : Tks} (hL : LastT ts) {y : List Sp × Int} (h : patP ts = .ok y) : 3 ≤ ts.length := by
  have : ∀ (f i : Nat) (strict : Bool) (k : Nat) (x : List Sp × Int), patF ts f i strict k = .ok x → 3 ≤ ts.length := by
    intro f
    induction f with
    | zero => intro i s k x h; cases h
    | succ f ih =>
      intro i strict k x h
      obtain ⟨s, k1, h1, ⟨-, l, h2, h3⟩ | ⟨-, h2, h3⟩⟩ := patF_is h
      · exact ih _ _ _ _ h2
      · have := (end_at hL h2).1
        omega
  exact this _ _ _ _ _ h
theorem putM_len (l : Bs) (p : Nat) (strict neg : Bool) (kind : Int) (N : Nat) (h : l.length ≤ 1000) : (putM l p strict neg kind N).length ≤ 2000 := by
  unfold putM stepB
  cases neg <;> simp <;> omega
theorem bytes_ok {kind : Int} {N : Nat} (h0 : 0 ≤ kind) (h9 : kind ≤ 9) (hN : ¬ 26 ≤ N) : wrap64 (48 + kind) = 48 + kind ∧ IntKind.wrap .u8 (48 + kind) = 48 + kind ∧ wrap64 (97 + (N : Int)) = 97 + (N : Int) ∧ IntKind.wrap .u8 (97 + (N : Int)) = 97 + (N : Int) := by
  refine ⟨by unfold wrap64; omega, by simp [IntKind.wrap, IntKind.bits, IntKind.signed]; omega, by unfold wrap64; omega, by simp [IntKind.wrap, IntKind.bits, IntKind.signed]; omega⟩
theorem catM (l : Bs) (p : Nat) (strict neg : Bool) (kind : Int) (N : Nat) (hp : p ≤ l.length) :
    ((((((⟨l.toArray⟩ : ByteArray).extract 0 p ++ ⟨#[if strict then 44 else 59]⟩) ++ ⟨(if neg then [33] else [] : Bs).toArray⟩) ++ ⟨#[u8 (48 + kind), u8 (97 + (N : Int))]⟩) ++ ⟨#[32]⟩) ++ (⟨l.toArray⟩ : ByteArray).extract p l.length) = ⟨(putM l p strict neg kind N).toArray⟩ := by
  rw [ext_take l p hp, ext_drop]
  apply ByteArray.ext
  simp only [ByteArray.data_append]
  unfold putM stepB
  simp
theorem refAll_ok (l : Bs) (w : World) (hl : l.length ≤ 2000) (h : ∀ x ∈ toks l, x.1.k ≠ 6) :
    Calls Tryd.prog 18 #[S l] w fun e w' => ∃ v, e = .returned (.tuple #[v, .int .i64 0, .int .i64 0]) ∧ TksAt w.heap.size v (toks l) w' ∧ Below w.heap.size w w' := by
  refine (refAll_short ⟨l.toArray⟩ w hl).mono ?_
  rintro e w' (⟨-, ⟨v, rfl, hr⟩, hb⟩ | ⟨t, p, h1, h2, _⟩)
  · exact ⟨v, rfl, hr, hb⟩
  · exact absurd h2 (h _ h1)
set_option maxRecDepth 100000 in
set_option maxHeartbeats 1000000 in
theorem more_out (s : ByteArray) (kind : Int) (strict neg : Bool) (w : World) (ho : OpsAt w) (h : 1000 < s.size ∨ kind < 0 ∨ 9 < kind) :
    Calls Tryd.prog 7 #[.string s, .int .i64 kind, .bool strict, .bool neg] w fun e w' => e = .returned (.bool true) ∧ Below w.heap.size w w' := by
  have fin := Lib.hid (wakes_any9 w ho)
  obtain ⟨a, ha⟩ : ∃ a, decide ((1000 : Int) < s.size) = a := ⟨_, rfl⟩
  obtain ⟨b, hb⟩ : ∃ b, decide (kind < 0) = b := ⟨_, rfl⟩
  obtain ⟨c, hc⟩ : ∃ c, decide ((9 : Int) < kind) = c := ⟨_, rfl⟩
  cases a
  · cases b
    · cases c
      · have q1 := of_decide_eq_false ha
        have q2 := of_decide_eq_false hb
        have q3 := of_decide_eq_false hc
        omega
      · go_enter Tryd.func7, Tryd.ntmps7
        go_wp2_with fail
        (with_reducible refine fin.out.mono ?_)
        rintro e w1 ⟨rfl, hb⟩
        go_wp2
        go_ret
        exact ⟨rfl, hb⟩
    · go_enter Tryd.func7, Tryd.ntmps7
      go_wp2_with fail
      (with_reducible refine fin.out.mono ?_)
      rintro e w1 ⟨rfl, hb⟩
      go_wp2
      go_ret
      exact ⟨rfl, hb⟩
  · go_enter Tryd.func7, Tryd.ntmps7
    go_wp2_with fail
    (with_reducible refine fin.out.mono ?_)
    rintro e w1 ⟨rfl, hb⟩
    go_wp2
    go_ret
    exact ⟨rfl, hb⟩
set_option maxRecDepth 100000 in
set_option maxHeartbeats 4000000 in
theorem more_bad (l : Bs) (kind : Int) (strict neg : Bool) (w : World) (ho : OpsAt w) (h : l.length ≤ 1000) (h0 : 0 ≤ kind) (h9 : kind ≤ 9) (t : Tk) (p : Nat) (ht : (t, p) ∈ toks l) (h6 : t.k = 6) :
    Calls Tryd.prog 7 #[S l, .int .i64 kind, .bool strict, .bool neg] w fun e w' => e = .returned (.bool true) ∧ Below w.heap.size w w' := by
  have hsz : (⟨l.toArray⟩ : ByteArray).size = l.length := rfl
  have hd : decide ((1000 : Int) < l.length) = false := by simp; omega
  have d0 : decide (kind < 0) = false := by simp; omega
  have d9 : decide ((9 : Int) < kind) = false := by simp; omega
  have M1 := Lib.hid (parse_lexbad ⟨l.toArray⟩ p 70 (by decide) w ho (fun W hW => lexAll_bad l W (by omega) hW t p ht h6))
  have HA := Lib.hid (fun W => refAll_short ⟨l.toArray⟩ W (by rw [hsz]; omega))
  unfold S
  go_enter Tryd.func7, Tryd.ntmps7
  go_wp2_with fail
  (with_reducible refine M1.out.mono ?_)
  rintro e w1 ⟨hb1, rfl⟩
  have hk : Below w1.heap.size w1 (w1.alloc (.cells #[.slice none 0 0, .int .i64 0] 25)) := (Below.refl _ w1).alloc (Nat.le_refl _) _
  have hb2 := hb1.trans (hk.mono hb1.size)
  have ho2 := (ho.later hb1).later hk
  go_wp2_with fail
  (with_reducible refine (HA.out _).mono ?_)
  rintro e w3 (⟨hno, -⟩ | ⟨t', p', -, -, rfl, hb3⟩)
  · exact absurd h6 (hno _ ht)
  have ho3 := ho2.later hb3
  have hb4 := hb2.trans (hb3.mono hb2.size)
  go_wp2_with fail
  (with_reducible refine (wakes_any9 w3 ho3).mono ?_)
  rintro e w4 ⟨rfl, hb5⟩
  go_wp2
  go_ret
  exact ⟨rfl, hb4.trans (hb5.mono hb4.size)⟩
theorem patP_fits {ts : List (Tk × Nat)} {ss : List Sp} {win : Int} (h : patP ts = .ok (ss, win)) (hn : ts.length ≤ 4000) {L : List (Sp × Value)} (hL : L.map (·.1) = ss) : Tree.Fits L := by
  obtain ⟨h1, h2⟩ := patF_len _ _ _ _ _ h
  have hl : L.length = ss.length := by rw [← hL]; simp
  simp only at h1 h2
  refine ⟨by omega, fun x hx => ?_⟩
  have := h2 x.1 (by rw [← hL]; exact List.mem_map.2 ⟨x, hx, rfl⟩)
  omega
theorem ownP_of {w : World} {b : Nat} {v : Value} {L : List (Sp × Value)} (h : Tree.OwnSps w b v L) : OwnP w b v L := h
theorem _root_.Go.Proofs.YtkedifhlkiffoaaDoor.OwnP.base0 {w : World} {b : Nat} {v : Value} {L : List (Sp × Value)} (h : OwnP w b v L) : OwnP w 0 v L :=
  ⟨Tree.row_base h.1 (Nat.zero_le _), fun x hx => Tree.row_base (h.2 x hx) (Nat.zero_le _)⟩
theorem more_app {X w w2 : World} {b7 N c6 : Nat} {a6 : Option Addr} {win kind : Int} {neg strict : Bool} {v2 : Value} {L6 : List (Sp × Value)} (hl : L6.length = N)
    (hO : OwnP w X.heap.size (.slice a6 N c6) L6) (hx : w.heap[b7]? = some (.cells #[.slice a6 N c6, .int .i64 win] 25 (0, 0))) (hB : Below X.heap.size X w) (hb7 : X.heap.size ≤ b7)
    (hgrow : w.grownBy w2 (Value.ownBlock (.slice a6 N c6)))
    (hown : w2.ownsRow X.heap.size 39 6 v2 (N + 1) (Tree.spsCells L6 ++ [.bool neg, .int .i64 kind, .int .i64 1, .int .i64 1, .bool strict, .slice none 0 0])) :
    w2.cell? ⟨b7, 0, none⟩ = some (.slice a6 N c6) ∧ w2.frozen? ⟨b7, 0, none⟩ = false ∧ PbF b7 v2 win (w2.setCell ⟨b7, 0, none⟩ v2) ∧
      PrS (L6.map (·.1) ++ [⟨neg, kind, 1, 1, strict, []⟩]) v2 (w2.setCell ⟨b7, 0, none⟩ v2) ∧ Below X.heap.size X (w2.setCell ⟨b7, 0, none⟩ v2) := by
  subst hl
  have hx2 := (hgrow.block b7 (Array.getElem?_eq_some_iff.1 hx).1 (Tree.not_rowblock hO.1 hx (by decide))).trans hx
  have hc : OwnC w X.heap.size (.slice none 0 0) [] := ⟨rfl, .inl ⟨rfl, rfl⟩⟩
  have hA : OwnP w2 X.heap.size v2 (L6 ++ [(⟨neg, kind, 1, 1, strict, []⟩, .slice none 0 0)]) := OwnP.app hO hc hgrow hown
  have hB2 := hB.grown hgrow hB.size (fun g hg => (hO.1.lt g hg).1)
  refine ⟨by simp [World.cell?, hx2], by simp [World.frozen?, hx2], ?_, ⟨_, (hA.far hx2 (by decide) (by decide)).base0, by simp⟩, hB2.setCell (p := ⟨b7, 0, none⟩) hb7 v2⟩
  have := box_set hx2 0 v2
  simpa [PbF] using this
set_option maxRecDepth 100000 in
set_option maxHeartbeats 4000000 in
theorem more_ok (l : Bs) (kind : Int) (strict neg : Bool) (w : World) (ho : OpsAt w) (h : l.length ≤ 1000) (h0 : 0 ≤ kind) (h9 : kind ≤ 9) (h6 : ∀ x ∈ toks l, x.1.k ≠ 6) :
    Calls Tryd.prog 7 #[S l, .int .i64 kind, .bool strict, .bool neg] w fun e w' => e = .returned (.bool true) ∧ Below w.heap.size w w' := by
  have hsz : (⟨l.toArray⟩ : ByteArray).size = l.length := rfl
  have hd : decide ((1000 : Int) < l.length) = false := by simp; omega
  have d0 : decide (kind < 0) = false := by simp; omega
  have d9 : decide ((9 : Int) < kind) = false := by simp; omega
  have hpos : 0 < (toks l).length := by unfold toks; simp [toksF]
  have hlen : (toks l).length ≤ 1001 := by have := toks_le l; omega
  have M1 := Lib.hid (parse_u l w (by omega) ho h6)
  have HA := Lib.hid (fun W => refAll_ok l W (by omega) h6)
  have HR := Lib.hid (toks_whole l h6)
  unfold S at *
  go_enter Tryd.func7, Tryd.ntmps7
  go_wp2_with fail
  (with_reducible refine M1.out.mono ?_)
  rintro e w1 ⟨a, c, L, win, at1, er1, hb1, rfl, hSL, hO1, -⟩
  clear M1
  obtain ⟨N, hN⟩ : ∃ N, L.length = N := ⟨_, rfl⟩
  rw [hN] at hSL ⊢
  have hk : Below w1.heap.size w1 (w1.alloc (.cells #[.slice a N c, .int .i64 win] 25)) := (Below.refl _ w1).alloc (Nat.le_refl _) _
  have hb2 := hb1.trans (hk.mono hb1.size)
  have ho2 := (ho.later hb1).later hk
  have hSL2 := hSL.later hk
  go_wp2_with fail
  (with_reducible refine (HA.out _).mono ?_)
  rintro e w3 ⟨v, rfl, ht, hb3⟩
  clear HA
  obtain ⟨g1, d1, rfl⟩ := tks_some ht hpos
  have ho3 := ho2.later hb3
  have hb4 := hb2.trans (hb3.mono hb2.size)
  have hSL3 := hSL2.later hb3
  obtain ⟨q3, z0, z1, -⟩ := box_later (World.alloc_heap_new w1 (.cells #[.slice a N c, .int .i64 win] 25)) hb3
  obtain ⟨P, hP⟩ : ∃ P, w1.heap.size = P := ⟨_, rfl⟩
  rw [hP] at z0 z1 q3 ⊢
  clear hb1 hk hb2 ho2 hb3 hSL hSL2 hP
  have hO1' := hO1
  rcases hO1 with ⟨hp, rfl, rfl⟩ | ⟨j, x, hp, hx, rfl, rfl, rfl, rfl⟩
  · by_cases h26 : 26 ≤ N
    · have m26 : decide ((26 : Int) ≤ N) = true := by simp; omega
      clear hp hSL3 HR
      go_wp2_with fail
      (with_reducible refine (wakes_any9 w3 ho3).mono ?_)
      rintro e w4 ⟨rfl, hb5⟩
      go_wp2
      go_ret
      exact ⟨rfl, hb4.trans (hb5.mono hb4.size)⟩
    have m26 : decide ((26 : Int) ≤ N) = false := by simp; omega
    have hLT := HR.out.last
    have h3 := pat_len hLT hp
    obtain ⟨m, hm⟩ : ∃ m, m + 3 = (toks l).length := ⟨(toks l).length - 3, by omega⟩
    obtain ⟨x, hx⟩ : ∃ x, (toks l)[m]? = some x := ⟨_, List.getElem?_eq_getElem (by omega)⟩
    have hNl : (L.map (·.1)).length = N := by simp [hN]
    obtain ⟨p1, p2, p3⟩ := more_pure h6 hp (by omega) hm hx strict neg kind h0 h9
    rw [hNl] at p2 p3
    obtain ⟨k0, k1, k2⟩ := tks_cell ht hx
    have hsh := hO1'.short (by omega)
    obtain ⟨n, hn⟩ : ∃ n, (toks l).length = n := ⟨_, rfl⟩
    rw [hn] at hpos hlen ht hm ⊢
    have n3 : decide ((n : Int) < 3) = false := by simp; omega
    have g3 : wrap64 ((n : Int) - 3) = m := by unfold wrap64; omega
    have gi : (m : Int) < n := by omega
    have gj : (0 : Int) ≤ m := by omega
    have k3 : w3.cell? ⟨g1, (n - 3) * 3 + 2, none⟩ = some (.int .i64 x.2) := by rw [show n - 3 = m by omega]; exact k2
    have hfit := patP_fits hp (by omega) (L := L) rfl
    clear hLT h3 hp hn hx HR k0 k1 k2
    go_upto_if 68 with fail
    obtain ⟨sepv, hsep⟩ : ∃ q : ByteArray, ⟨#[if strict then 44 else 59]⟩ = q := ⟨_, rfl⟩
    obtain ⟨markv, hmark⟩ : ∃ q : ByteArray, (⟨(if neg then [33] else [] : Bs).toArray⟩ : ByteArray) = q := ⟨_, rfl⟩
    replace hsep := Lib.hid hsep
    replace hmark := Lib.hid hmark
    obtain ⟨W3, hW3⟩ : ∃ W, W = w3 := ⟨_, rfl⟩
    go_cut [16, 17] from 68 (fun t u wz => t = .string sepv ∧ u = .string ⟨#[]⟩ ∧ wz = w3)
    case first =>
      cases strict
      · obtain rfl := hsep.out
        go_wp2_with fail
        go_meet
        exact ⟨rfl, rfl, rfl⟩
      · obtain rfl := hsep.out
        go_wp2_with fail
        go_meet
        exact ⟨rfl, rfl, rfl⟩
    case rest =>
    obtain ⟨rfl, rfl, hwc⟩ := hcut
    subst hwc
    go_upto_if 69 with fail
    go_cut [16, 17] from 68 (fun t u wz => t = .string sepv ∧ u = .string markv ∧ wz = wc)
    case first =>
      cases neg
      · obtain rfl := hmark.out
        go_wp2_with fail
        go_meet
        exact ⟨rfl, rfl, rfl⟩
      · obtain rfl := hmark.out
        go_wp2_with fail
        go_meet
        exact ⟨rfl, rfl, rfl⟩
    case rest =>
    obtain ⟨rfl, rfl, hwc⟩ := hcut
    subst hwc
    have c0 : decide ((x.2 : Int) < 0) = false := decide_eq_false (by omega)
    have c1 : decide ((l.length : Int) < (x.2 : Int)) = false := decide_eq_false (by omega)
    obtain ⟨v1, v2, v3, v4⟩ := bytes_ok h0 h9 h26
    have hxi : (x.2 : Int) ≤ l.length := by omega
    have HC := catM l x.2 strict neg kind N p1
    have hz1 : sepv.size = 1 := by rw [← hsep.out]; rfl
    have hz2 : markv.size ≤ 1 := by rw [← hmark.out]; cases neg <;> decide
    have hz3 : ((⟨l.toArray⟩ : ByteArray).extract 0 x.2).size = x.2 := by rw [ext_take l x.2 p1]; show (l.take x.2).length = x.2; rw [List.length_take]; exact Nat.min_eq_left p1
    have hz4 : ((⟨l.toArray⟩ : ByteArray).extract x.2 l.length).size = l.length - x.2 := by rw [ext_drop]; show (l.drop x.2).length = _; rw [List.length_drop]
    rw [hsep.out, hmark.out] at HC
    have hpl := putM_len l x.2 strict neg kind N h
    have HB := Lib.hid (fun W ho => parse_u (putM l x.2 strict neg kind N) W hpl ho p2)
    have HS := hSL3
    clear z1 k3 n3 g3 gi gj ht
    go_upto_region 16 with fail
    have hD3 : Below wc.heap.size wc wc.drew := ⟨rfl, rfl, rfl, Nat.le_refl _, fun _ _ => rfl⟩
    obtain ⟨A1, hA1⟩ : ∃ A, (⟨l.toArray⟩ : ByteArray).extract 0 x.2 = A := ⟨_, rfl⟩
    obtain ⟨A3, hA3⟩ : ∃ A, (⟨l.toArray⟩ : ByteArray).extract x.2 l.length = A := ⟨_, rfl⟩
    rw [hA1] at hz3
    rw [hA3] at hz4
    rw [hA1, hA3] at HC
    obtain ⟨k8, hk8⟩ : ∃ k, 48 + kind = k := ⟨_, rfl⟩
    obtain ⟨n8, hn8⟩ : ∃ k, 97 + (N : Int) = k := ⟨_, rfl⟩
    rw [hk8] at v1 v2
    rw [hn8] at v3 v4
    obtain ⟨B2, hB2⟩ : ∃ B, (⟨#[u8 k8, u8 n8]⟩ : ByteArray) = B := ⟨_, rfl⟩
    rw [hk8, hn8, hB2] at HC
    have hzB : B2.size = 2 := by rw [← hB2]; rfl
    obtain ⟨T1, hT1⟩ : ∃ B, A1 ++ sepv = B := ⟨_, rfl⟩
    obtain ⟨T2, hT2⟩ : ∃ B, T1 ++ markv = B := ⟨_, rfl⟩
    obtain ⟨T3, hT3⟩ : ∃ B, T2 ++ B2 = B := ⟨_, rfl⟩
    obtain ⟨T4, hT4⟩ : ∃ B, T3 ++ ⟨#[32]⟩ = B := ⟨_, rfl⟩
    obtain ⟨T5, hT5⟩ : ∃ B, T4 ++ A3 = B := ⟨_, rfl⟩
    have e1 : T1.size = A1.size + sepv.size := by rw [← hT1, ByteArray.size_append]
    have e2 : T2.size = T1.size + markv.size := by rw [← hT2, ByteArray.size_append]
    have e3 : T3.size = T2.size + B2.size := by rw [← hT3, ByteArray.size_append]
    have e4 : T4.size = T3.size + 1 := by rw [← hT4, ByteArray.size_append]; rfl
    rw [hT1, hT2, hT3, hT4, hT5] at HC
    have hpi1 : x.2 ≤ (⟨l.toArray⟩ : ByteArray).size := p1
    have hwA : IntKind.wrap .i64 (48 + kind) = k8 := by rw [IntKind.wrap_i64]; omega
    have hwN : IntKind.wrap .i64 (97 + (N : Int)) = n8 := by rw [IntKind.wrap_i64]; omega
    have D21 : Hid (∀ X, Below wc.drew.heap.size wc.drew X → Calls Tryd.prog 14 #[.string T5] X fun e Y => ∃ a5 n5 c5, e = .returned (.tuple #[Tree.ptV (.slice a5 n5 c5) win, .int .i64 0, .int .i64 0]) ∧ PrS (L.map (·.1) ++ [⟨neg, kind, 1, 1, strict, []⟩]) (.slice a5 n5 c5) Y ∧ Below X.heap.size X Y) := Lib.hid fun X hX => by
      obtain ⟨hE, hp0⟩ := toks_ends (putM l x.2 strict neg kind N) p2
      have := parse_toks (putM l x.2 strict neg kind N) X hpl (ho3.later (Tree.kept_trans hD3 hX)) p2 hE (by have := toks_le (putM l x.2 strict neg kind N); omega) hp0
      rw [p3] at this
      rw [HC]
      refine this.mono ?_
      rintro e Y ⟨hb, v, L5, h1, h2, h3⟩
      obtain ⟨a5, c5, hv5⟩ := h2.sps.lit rfl
      subst hv5
      exact ⟨a5, _, c5, h1, ⟨L5, h2.base0, h3⟩, hb⟩
    have hs5 : A1.size + sepv.size + markv.size + 2 + 1 + A3.size ≤ 5000 := by omega
    refine more_reg16 wc hpi1 hA1 hA3 hB2 hT1 hT2 hT3 hT4 hT5 hwA v2 hwN v4 (by omega) (by omega) (by omega) (by omega) (by omega) D21 _ _ _ _ _ _ _ _ _ _ _ _ _ _ _ _ _ _ _ _ _ _ _ _ _ _ _ _ _ _ _ _ _ _ _ _ _ _ _ _ _ _ _ _ _ _ _ _ _ _ _ _ _ _ _ _ _ _ _ _ _ _ _ _ _ _ _ _ _ _ _ _ _ _ _ _ _ _ _ _ _ _ _ _ _ _ _ _ _ _ _ _ _ _ _ _ _ _ _ _ _ _ _ _ _ _ _ _ _ _ _ _ _ _ _ _ _ _ _ _ _ _ _ ?_
    intro p19 a5 n5 c5 x81 x82 x83 x84 x85 x86 x87 x88 x89 x90 x91 x92 x93 x94 x95 x96 x97 x98 x99 x100 x101 x102 x103 x104 x105 x106 X hPr hPb hX
    clear HB D21 HC hT1 hT2 hT3 hT4 hT5 e1 e2 e3 e4 hA1 hA3 hB2 hz1 hz2 hz3 hz4 hzB hwA hwN v1 v2 v3 v4 hk8 hn8 hsep hmark
    have hX3 := Tree.kept_trans hD3 hX
    have hoX := ho3.later hX3
    have hSX := hSL3.later hX3
    have hBX := hb4.trans (hX3.mono hb4.size)
    obtain ⟨qX, z0X, z1X, -⟩ := box_later q3 hX3
    have Q1 := Lib.hid (Tree.refOwn_V win hfit X hSX)
    have hle : Hid (N + 1 ≤ 1000000) := Lib.hid (by have := hfit.1; omega)
    have hsc : Hid (∀ M : List (Sp × Value), M.map (·.1) = L.map (·.1) ++ [⟨neg, kind, 1, 1, strict, []⟩] → Tree.Short M) := Lib.hid fun M hM => by
      have h1 := congrArg List.length hM
      simp at h1
      refine ⟨by have := hle.out; omega, fun y hy => ?_⟩
      have : y.1 ∈ L.map (·.1) ++ [⟨neg, kind, 1, 1, strict, []⟩] := by rw [← hM]; exact List.mem_map_of_mem hy
      rcases List.mem_append.1 this with h2 | h2
      · obtain ⟨z, hz, e⟩ := List.mem_map.1 h2
        have := hfit.2 z hz
        rw [e] at this
        omega
      · obtain e := List.mem_singleton.1 h2
        rw [e]; simp
    replace hN := Lib.hid hN
    replace hPr := Lib.hid hPr
    replace hPb := Lib.hid hPb
    replace hoX := Lib.hid hoX
    replace hBX := Lib.hid hBX
    clear hX hX3 hD3 ho3 hSL3 hSX hb4 q3 hfit qX hsh hO1' h6 p1 p2 p3 hpl hpi1 hs5 c0 c1 m26
    go_upto_region 18 with ((with_reducible refine Q1.out.mono ?_); rintro e w6 ⟨v6, L6, rfl, hO6, hm6, hb6⟩; have hl6 : L6.length = N := (by have := congrArg List.length hm6; simpa [hN.out] using this); obtain ⟨a6, c6, e6⟩ := hO6.sps.lit hl6; subst e6; replace hO6 := Lib.hid hO6; replace hb6 := Lib.hid hb6; replace hm6 := Lib.hid hm6; replace hl6 := Lib.hid hl6)
    have k7 := Tree.kept_new w6 (.cells #[.slice a6 N c6, .int .i64 win] 25)
    have hx7 : (w6.alloc (.cells #[.slice a6 N c6, .int .i64 win] 25)).heap[w6.heap.size]? = some (.cells #[.slice a6 N c6, .int .i64 win] 25 (0, 0)) := World.alloc_heap_new w6 _
    have hB7 := Tree.kept_trans hb6.out k7
    have hO7 : OwnP (w6.alloc (.cells #[.slice a6 N c6, .int .i64 win] 25)) X.heap.size (.slice a6 N c6) L6 := OwnP.kept (row := none) (ownP_of hO6.out) (World.grownBy_alloc _ _ _) (fun q e => by cases e)
    have hsz7 : X.heap.size ≤ w6.heap.size := hb6.out.size
    clear k7 Q1 z0X z1X
    obtain ⟨b7, hb7⟩ : ∃ b, w6.heap.size = b := ⟨_, rfl⟩
    rw [hb7] at hx7 hsz7 ⊢
    generalize w6.alloc (.cells #[.slice a6 N c6, .int .i64 win] 25) = w7 at *
    obtain ⟨i0, hi, hz0, hz1, hz2⟩ := info_parts Tryd.info39
    replace hi := Lib.hid hi
    have k8' := Tree.kept_new w7 (.cells #[.bool neg, .int .i64 kind, .int .i64 1, .int .i64 1, .bool strict, .slice none 0 0] 39)
    have hx8 := (k8'.block _ (Array.getElem?_eq_some_iff.1 hx7).1).trans hx7
    have hO8 : OwnP (w7.alloc (.cells #[.bool neg, .int .i64 kind, .int .i64 1, .int .i64 1, .bool strict, .slice none 0 0] 39)) X.heap.size (.slice a6 N c6) L6 := OwnP.kept (row := none) hO7 (World.grownBy_alloc _ _ _) (fun q e => by cases e)
    have hB8 := Tree.kept_trans hB7 k8'
    have hc8 : Tree.CellsAt (w7.alloc (.cells #[.bool neg, .int .i64 kind, .int .i64 1, .int .i64 1, .bool strict, .slice none 0 0] 39)) (some ⟨w7.heap.size, 0, none⟩) [.bool neg, .int .i64 kind, .int .i64 1, .int .i64 1, .bool strict, .slice none 0 0] := .inr ⟨_, _, rfl, fun j u hu => by
      have := World.alloc_heap_new w7 (.cells #[.bool neg, .int .i64 kind, .int .i64 1, .int .i64 1, .bool strict, .slice none 0 0] 39)
      simp only [World.cell?, this, Nat.zero_add]
      simpa using hu⟩
    have y0 : w7.cell? ⟨b7, 0, none⟩ = some (.slice a6 N c6) := by simp [World.cell?, hx7]
    have hrow8 := hO8.1
    rw [hl6.out] at hrow8
    have hs8 : X.heap.size ≤ (w7.alloc (.cells #[.bool neg, .int .i64 kind, .int .i64 1, .int .i64 1, .bool strict, .slice none 0 0] 39)).heap.size := hB8.size
    have hb63 : N + 1 ≤ maxLen := by unfold maxLen; have := hle.out; omega
    have hb64 : (N + 1) * 64 ≤ 140737488355328 := by have := hle.out; omega
    go_upto_region 19 with (at_builtin; refine Tree.wpList_append_cells rfl (.tmp 110) (.tmp 115) 23 rfl X.heap.size 39 i0 _ 6 64 Tryd.underlying23 hi.out hz0 hz1 hz2 rfl (by decide) _ N (Tree.spsCells L6) rfl hrow8 (some ⟨w7.heap.size, 0, none⟩) 1 1 [.bool neg, .int .i64 kind, .int .i64 1, .int .i64 1, .bool strict, .slice none 0 0] rfl rfl hc8 (by simp [Value.oneCell']) hb63 hb64 hs8 ?_; intro v9 w9 hown9 hgrow9; obtain ⟨a9, c9, rfl, -⟩ := Tree.cells_of_row hown9; obtain ⟨y9, f9, hF9, hS9, hB9⟩ := more_app hl6.out hO8 hx8 hB8 hsz7 hgrow9 hown9; replace hF9 := Lib.hid hF9; replace hS9 := Lib.hid hS9; replace hB9 := Lib.hid hB9; clear hown9 hgrow9)
    clear hO8 hx8 hB8 hc8 hrow8 hs8 hx7 hO7 hB7 y0 k8' hO6 hb6
    obtain ⟨W9, hW9⟩ : ∃ W, w9.setCell ⟨b7, 0, none⟩ (.slice a9 (N + 1) c9) = W := ⟨_, rfl⟩
    rw [hW9] at hF9 hS9 hB9 ⊢
    clear y9 f9 hW9
    obtain ⟨M6, hM6, hn6⟩ := hS9.out
    obtain ⟨M5, hM5, hn5⟩ := (hPr.out.later (Y := W9) (hB9.out))
    rw [hm6.out] at hn6
    have k5 := hPb.out.later hB9.out
    obtain ⟨-, s0, s1, -⟩ := box_later k5 (Below.refl _ W9)
    obtain ⟨-, s2, s3, -⟩ := box_later hF9.out (Below.refl _ W9)
    have Q2 := Lib.hid (Tree.refSame_V win win (hsc.out _ hn5) (hsc.out _ hn6) W9 hM5.sps hM6.sps)
    have ho9 := hoX.out.later hB9.out
    have hD9 : decide (M5.map (·.1) = M6.map (·.1) ∧ win = win) = true := by rw [hn5, hn6]; simp
    rw [hD9] at Q2
    have hBe := hBX.out.trans (hB9.out.mono hBX.out.size)
    clear hM5 hM6 hn5 hn6 hD9 k5 hF9 hS9 hB9 hPr hPb hoX hBX
    go_wp2_with ((with_reducible refine Q2.out.mono ?_); rintro e w10 ⟨rfl, hb10⟩)
    (with_reducible refine (wakes_any9 w10 (ho9.later hb10)).mono ?_)
    rintro e w11 ⟨rfl, hb11⟩
    go_wp2
    go_ret
    exact ⟨rfl, hBe.trans ((hb10.trans (hb11.mono hb10.size)).mono hBe.size)⟩
  · go_wp2_with fail
    (with_reducible refine (wakes_any9 w3 ho3).mono ?_)
    rintro e w4 ⟨rfl, hb5⟩
    go_wp2
    go_ret
    exact ⟨rfl, hb4.trans (hb5.mono hb4.size)⟩
end Go.Proofs.YtkedifhlkiffoaaDoor.parseMore
namespace Go.Proofs.YtkedifhlkiffoaaDoor.parseMore
open Go.ChangeShapes Go.WideShapes Go.ChangeAt Go.RowKit
open Go.ChangeMaps (open_string shut_string)
set_option linter.unusedVariables false
set_option linter.unusedSimpArgs false
theorem walk (s : ByteArray) (kind : Int) (strict neg : Bool) (w : World) (ho : OpsAt w) (hs : s.size ≤ maxLen) (hk : (Lit.int IntKind.i64 kind).wf = true) :
    Calls Tryd.prog 7 #[.string s, .int .i64 kind, .bool strict, .bool neg] w fun e w' => e = .returned (.bool true) ∧ Below w.heap.size w w' := by
  by_cases h : 1000 < s.size ∨ kind < 0 ∨ 9 < kind
  · exact more_out s kind strict neg w ho h
  have hl : s.data.toList.length ≤ 1000 := by have : s.data.toList.length = s.size := rfl; omega
  by_cases h6 : ∀ x ∈ toks s.data.toList, x.1.k ≠ 6
  · exact more_ok s.data.toList kind strict neg w ho hl (by omega) (by omega) h6
  · obtain ⟨x, hx⟩ : ∃ x, x ∈ toks s.data.toList ∧ x.1.k = 6 := by
      refine Classical.byContradiction fun hn => h6 fun x hx he => hn ⟨x, hx, he⟩
    exact more_bad s.data.toList kind strict neg w ho hl (by omega) (by omega) x.1 x.2 hx.1 hx.2
set_option maxRecDepth 100000 in
theorem lifted (os : Os) (started : os.Started) (H : Type) (enc : TypeId × Value → H) :
    ReturnsInHanded {} Tryd.checked os 7 .any (fun w args => (Rows.parseMoreSpec.pre enc Tryd.prog Tryd.f7 [] false w args ∧ laidMetH Tryd.prog laid1 w) ∧ sizedMet enc Tryd.prog Tryd.f7 (OpenSpec.ofChange Rows.parseMoreSpec) false w args)
      (Rows.parseMoreSpec.post enc Tryd.prog Tryd.f7 false true false false) := by
  refine returnsInHanded_of_change_and (C := Tryd.checked) (X := fun w _ => laidMetH Tryd.prog laid1 w) (fun _ _ _ hh h => h.of_heap hh) own started (by kernel_rfl) Tryd.func7
    (ChangeSpec.witness_shaped (enc := enc) (C := Tryd.checked) (os := os) (X := fun w _ => laidMetH Tryd.prog laid1 w) false (World.doorLaid Tryd.prog 400 os) #[.string ⟨#[]⟩, .int .i64 0, .bool false, .bool false] 8 rfl (World.shaped_of_RefB (by kernel_rfl) (by kernel_rfl)) (by kernel_rfl) (by kernel_rfl) (by kernel_rfl) (door_met os _)) ?_
  intro W base args ds gs before hval0 hW _ _ hL _
  have hval : ∀ (j : Nat) t v, Tryd.f7.params[j]? = some t → args[j]? = some v → Value.okWide Tryd.prog W .any base t v := hval0
  have hW' := hW
  obtain ⟨p, q, hA0, hV, rfl, hfz, hnd⟩ := hW
  have hA : DataW.TrodAll enc Tryd.prog W 0 (fun _ => true) true Tryd.f7.params.toList args.toList ds p := hA0
  rw [Tryd.params7] at hA hval
  obtain ⟨v0, vs0, d0, ds0, p0, q0, hargs, rfl, rfl, h0, r0⟩ := trodAll_cons hA
  obtain ⟨v1, vs1, d1, ds1, p1, q1, rfl, rfl, rfl, h1, r1⟩ := trodAll_cons r0
  obtain ⟨v2, vs2, d2, ds2, p2, q2, rfl, rfl, rfl, h2, r2⟩ := trodAll_cons r1
  obtain ⟨v3, vs3, d3, ds3, p3, q3, rfl, rfl, rfl, h3, r3⟩ := trodAll_cons r2
  obtain ⟨rfl, rfl, rfl⟩ := trodAll_nil r3
  obtain rfl : args = #[v0, v1, v2, v3] := by cases args; simp_all
  obtain ⟨rfl, rfl⟩ := trodVars_none hV
  obtain ⟨a0, rfl, rfl, rfl, w0⟩ := open_string Tryd.underlying9 (hval 0 9 v0 rfl rfl) h0
  obtain ⟨a1, rfl, rfl, rfl, w1⟩ := open_int Tryd.underlying3 (hval 1 3 v1 rfl rfl) h1
  obtain ⟨a2, rfl, rfl, rfl⟩ := open_bool Tryd.underlying4 (hval 2 4 v2 rfl rfl) h2
  obtain ⟨a3, rfl, rfl, rfl⟩ := open_bool Tryd.underlying4 (hval 3 4 v3 rfl rfl) h3
  have ho := ops_of_laid hL
  clear hA0 hval0
  refine (walk a0 a1 a2 a3 W ho w0 w1).mono fun e W' ⟨he, bel⟩ => ?_
  subst he
  exact ⟨_, rfl, _, _, _, [], _, [], hW', trodAll_mk1 (shut_bool Tryd.underlying4 _), (trodAll_cons_mk (shut_string Tryd.underlying9 w0) (trodAll_cons_mk (shut_int Tryd.underlying3 w1) (trodAll_cons_mk (shut_bool Tryd.underlying4 _) (trodAll_cons_mk (shut_bool Tryd.underlying4 _) trodAll_mk0)))), rfl, bel.frame _, fun h => by cases h⟩

theorem over : Rows.parseMoreRow.holds Tryd.pinned (OpenSpec.ofChange Rows.parseMoreSpec) :=
  OpenClaim.holds_of_wide 7 Tryd.f7 rfl rfl rfl rfl rfl rfl rfl ⟨rfl, rfl, rfl, rfl, rfl⟩ rfl rfl rfl rfl rfl (by kernel_rfl) Tryd.func7 (by kernel_rfl)
    (of_decide_eq_true (by kernel_rfl)) (by unfold Func.isWrapper; first | (rw [if_pos (by decide +kernel)]; kernel_rfl) | (rw [if_neg (by decide +kernel)]; exact ⟨rfl, rfl⟩))
    (fun os started H enc _ => lifted os started H enc)

theorem proved : Rows.ParseMoreCardSaid :=
  Claim7.holds_tied_plain_at .later [] [.data] true (true, "8951fcf2f1aa268f231726c1c9c9cc5d68f7a7c78d087fffac500afabcc0f7a2") true
    over (fun _ h => by cases h) (by kernel_rfl) (fun _ h => by cases h) parseMore_row_tie rfl ⟨rfl, rfl⟩ (by kernel_rfl) rfl
    (fun f fn hf hfn => by
      obtain rfl : f = 7 := Option.some.inj ((show Tryd.prog.funcNamed "straggle/stragglelaw09.ParseMore" = some 7 by kernel_rfl).symm.trans hf) |>.symm
      obtain rfl : fn = Tryd.f7 := (Option.some.inj (Tryd.func7.symm.trans hfn)).symm
      exact ⟨by kernel_rfl, fun j t ht => by
        rw [Tryd.params7] at ht
        have hm : t ∈ [9, 3, 4, 4] := by simpa using Array.mem_of_getElem? ht
        have hall : ([9, 3, 4, 4].all fun u => !Tryd.prog.wantsStandIn u) = true := by kernel_rfl
        exact (show Tryd.prog.wantsStandIn t = false by simpa using List.all_eq_true.1 hall t hm)⟩)
    (by kernel_rfl)
#print axioms proved
end Go.Proofs.YtkedifhlkiffoaaDoor.parseMore
