/-
  CheckOne's walk: its loop's body, each rule a theorem of its own, and the whole.
-/
import Derived.Test.YtmgkamljlgmmeaaCR
import Derived.Deep.Cut
namespace Go.Proofs.Ytmgkamljlgmmeaa.Tree
open Go.ChangeShapes Go.WideShapes Go.ChangeAt Go.RowKit
set_option linter.unusedVariables false
set_option linter.unusedSimpArgs false
attribute [local go_sem] Oper.semAt_some
/-- What the law reads all along. -/
def OnK (w : World) (a : Option Addr) (n c : Nat) (win : Int) (L : List (Sp × Value)) (X : World) : Prop := PtIn w.heap.size a n c win L X ∧ Below w.heap.size w X
theorem OnK.later {w : World} {a : Option Addr} {n c : Nat} {win : Int} {L : List (Sp × Value)} {X Y : World} (h : OnK w a n c win L X) (hb : Below X.heap.size X Y) : OnK w a n c win L Y := ⟨h.1.later hb, kept_trans h.2 hb⟩
/-- How many steps the slice in the box tells. -/
def lenAt (P : Nat) (W : World) : Nat := match W.cell? ⟨P, 0, none⟩ with | some (.slice _ n _) => n | _ => 0
theorem GdQ.call {wr W : World} {P : Nat} {N : List Sp} {win' q1 q2 q3 : Int} (h : GdQ wr P N win' W) (hT : checkT N win' = (q1, q2, q3)) : ∃ v, PtBox P v win' W ∧ Below wr.heap.size wr W ∧ (∃ a n c, v = .slice a n c) ∧
    Calls Try.prog 10 #[ptV v win'] W fun e w' => e = .returned (.tuple #[.int .i64 q1, .int .i64 q2, .int .i64 q3]) ∧ Below W.heap.size W w' := by
  obtain ⟨v, M, rfl, hck, hP, hS, hB⟩ := h
  have := check_V win' hck W hS
  rw [hT] at this
  obtain ⟨a, c, e⟩ := hS.lit rfl
  exact ⟨v, hP, hB, ⟨a, _, c, e⟩, this⟩
/-- The first loop of a code. -/
def firstLoop : Code → Option Code
  | .loop c => some c
  | .seq a b => match firstLoop a with
    | some c => some c
    | none => firstLoop b
  | .block _ c => firstLoop c
  | .scope c => firstLoop c
  | .cond _ a b => match firstLoop a with
    | some c => some c
    | none => firstLoop b
  | _ => none
noncomputable def body5 : Code := (Try.f5.body.bind firstLoop).getD .skip
set_option maxRecDepth 1000000 in
set_option maxHeartbeats 16000000 in
theorem oneR1 (L : List (Sp × Value)) (win nn : Int) (w : World) (wn : (Lit.int IntKind.i64 nn).wf = true) (n : Nat) (a : Option Addr) (c : Nat)
    (h40 : n ≤ 40) (hlen : 1 ≤ n ∧ n ≤ 6) (hn1 : 0 < n) (ht1 : 1 ≤ nn) (ht2 : nn ≤ 1000) (hS : Hid (Small (List.map (fun x => x.fst) L)))
    (h20 : Hid (∀ (s : Sp), s ∈ List.map (fun x => x.fst) L → s.cs.length ≤ 20)) (hqo : Hid (OpsOk L)) (hMay : Hid (MayP (List.map (fun x => x.fst) L) win)) (hn : Hid (L.length = n))
    (u6 u8 u9 u10 u11 u12 u13 u14 u15 u16 u17 u18 u19 u20 u21 u22 u23 u24 u25 u26 u27 u28 u29 u30 u31 u32 u33 u34 u35 u36 u37 u38 u39 u40 u41 u42 u43 u44 u45 u46 u47 u48 u49 u50 u51 u52 u53 u54 u55 u56 u57 u58 u59 u60 u61 u62 u63 u64 u65 u66 u67 u68 u69 u70 u71 u72 u73 u74 u75 u76 u77 u78 u79 u80 u81 u82 u83 u84 u85 u86 u87 u88 u89 u90 u91 u92 u93 u94 u95 u96 u97 u98 u99 u100 u101 u102 u103 u104 u105 u106 u107 u108 u109 u110 u111 u112 u113 u114 u115 u116 u117 u118 u119 u120 u121 u122 u123 u124 u125 u126 u127 u128 u129 u130 u131 u132 u133 u134 u135 u136 u137 u138 u139 u140 u141 u142 u143 u144 u145 u146 u147 u148 u149 u150 u151 u152 u153 u154 u155 u156 u157 u158 u159 u160 u161 u162 u163 u164 u165 u166 u167 u168 u169 u170 u171 u172 u173 u174 u175 u176 u177 u178 u179 u180 u181 u182 u183 u184 u185 u186 u187 u188 u189 u190 u191 u192 u193 u194 u195 u196 : Value) (j : Nat) (hj : j < n) (hjn : (j : Int) < (n : Int)) (Q0 : Exit → Act → World → Prop) (wr : World)
    (hIr : Hid (OnK w a n c win L wr))
    (k0 : wr.cell? { block := w.heap.size, off := 0 } = some (Value.slice a n c)) (k1 : wr.cell? { block := w.heap.size, off := 1 } = some (Value.int IntKind.i64 win))
    (hO : Hid (Calls Try.prog 20 #[ptV (Value.slice a n c) win] wr fun e w' => ∃ v' L', e = Ending.returned (ptV v' win) ∧ OwnSps w' wr.heap.size v' L' ∧ List.map (fun x => x.fst) L' = List.map (fun x => x.fst) L ∧ Apart L' ∧ Below wr.heap.size wr w')) :
    Code.wp Try.prog body5
      (Exit.then (fun a' w' => (∃ u6 u7 u8 u9 u10 u11 u12 u13 u43 u44 u45 u46 u47 u48 u49 u50 u51 u52 u53 u54 u55 u56 u57 u58 u59 u60 u61 u62 u63 u64 u65 u66 u67 u68 u69 u70 u71 u72 u73 u74 u75 u76 u77 u78 u79 u80 u81 u82 u83 u84 u85 u86 u87 u88 u89 u90 u91 u92 u93 u94 u95 u96 u97 u98 u99 u100 u101 u102 u103 u104 u105 u106 u107 u108 u109 u110 u111 u112 u113 u114 u115 u116 u117 u118 u119 u120 u121 u122 u123 u124 u125 u126 u127 u128 u129 u130 u131 u132 u133 u134 u135 u136 u137 u138 u139 u140 u141 u142 u143 u144 u145 u146 u147 u148 u149 u150 u151 u152 u153 u154 u155 u156 u157 u158 u159 u160 u161 u162 u163 u164 u165 u166 u167 u168 u169 u170 u171 u172 u173 u174 u175 u176 u177 u178 u179 u180 u181 u182 u183 u184 u185 u186 u187 u188 u189 u190 u191 u192 u193 u194 u195, (∃ r : Nat, 1 ≤ r ∧ r ≤ 8 ∧ u7 = Value.int IntKind.i64 ↑r ∧ Hid (OnK w a n c win L w')) ∧
          a' = ⟨#[ptV (Value.slice a n c) win, Value.int IntKind.i64 ↑j, Value.int IntKind.i64 nn, Value.pointer (some { block := w.heap.size, off := 0 }), undef, undef, u6, u7, u8, u9, u10, u11, u12, u13, u14, u15, u16, u17, u18, u19, u20, u21, u22, u23, u24, u25, u26, u27, u28, u29, u30, u31, u32, u33, u34, u35, u36, u37, u38, u39, u40, u41, u42, u43, u44, u45, u46, u47, u48, u49, u50, u51, u52, u53, u54, u55, u56, u57, u58, u59, u60, u61, u62, u63, u64, u65, u66, u67, u68, u69, u70, u71, u72, u73, u74, u75, u76, u77, u78, u79, u80, u81, u82, u83, u84, u85, u86, u87, u88, u89, u90, u91, u92, u93, u94, u95, u96, u97, u98, u99, u100, u101, u102, u103, u104, u105, u106, u107, u108, u109, u110, u111, u112, u113, u114, u115, u116, u117, u118, u119, u120, u121, u122, u123, u124, u125, u126, u127, u128, u129, u130, u131, u132, u133, u134, u135, u136, u137, u138, u139, u140, u141, u142, u143, u144, u145, u146, u147, u148, u149, u150, u151, u152, u153, u154, u155, u156, u157, u158, u159, u160, u161, u162, u163, u164, u165, u166, u167, u168, u169, u170, u171, u172, u173, u174, u175, u176, u177, u178, u179, u180, u181, u182, u183, u184, u185, u186, u187, u188, u189, u190, u191, u192, u193, u194, u195, u196], []⟩) ∧
        8 - (intOf (a'.tmps.getD 7 undef)).toNat < 8 - (intOf ((#[ptV (Value.slice a n c) win, Value.int IntKind.i64 ↑j, Value.int IntKind.i64 nn, Value.pointer (some { block := w.heap.size, off := 0 }), undef, undef, u6, Value.int IntKind.i64 (((1 : Nat) : Int)), u8, u9, u10, u11, u12, u13, u14, u15, u16, u17, u18, u19, u20, u21, u22, u23, u24, u25, u26, u27, u28, u29, u30, u31, u32, u33, u34, u35, u36, u37, u38, u39, u40, u41, u42, u43, u44, u45, u46, u47, u48, u49, u50, u51, u52, u53, u54, u55, u56, u57, u58, u59, u60, u61, u62, u63, u64, u65, u66, u67, u68, u69, u70, u71, u72, u73, u74, u75, u76, u77, u78, u79, u80, u81, u82, u83, u84, u85, u86, u87, u88, u89, u90, u91, u92, u93, u94, u95, u96, u97, u98, u99, u100, u101, u102, u103, u104, u105, u106, u107, u108, u109, u110, u111, u112, u113, u114, u115, u116, u117, u118, u119, u120, u121, u122, u123, u124, u125, u126, u127, u128, u129, u130, u131, u132, u133, u134, u135, u136, u137, u138, u139, u140, u141, u142, u143, u144, u145, u146, u147, u148, u149, u150, u151, u152, u153, u154, u155, u156, u157, u158, u159, u160, u161, u162, u163, u164, u165, u166, u167, u168, u169, u170, u171, u172, u173, u174, u175, u176, u177, u178, u179, u180, u181, u182, u183, u184, u185, u186, u187, u188, u189, u190, u191, u192, u193, u194, u195, u196] : Array Value).getD 7 undef)).toNat) Q0)
      ⟨#[ptV (Value.slice a n c) win, Value.int IntKind.i64 ↑j, Value.int IntKind.i64 nn, Value.pointer (some { block := w.heap.size, off := 0 }), undef, undef, u6, Value.int IntKind.i64 (((1 : Nat) : Int)), u8, u9, u10, u11, u12, u13, u14, u15, u16, u17, u18, u19, u20, u21, u22, u23, u24, u25, u26, u27, u28, u29, u30, u31, u32, u33, u34, u35, u36, u37, u38, u39, u40, u41, u42, u43, u44, u45, u46, u47, u48, u49, u50, u51, u52, u53, u54, u55, u56, u57, u58, u59, u60, u61, u62, u63, u64, u65, u66, u67, u68, u69, u70, u71, u72, u73, u74, u75, u76, u77, u78, u79, u80, u81, u82, u83, u84, u85, u86, u87, u88, u89, u90, u91, u92, u93, u94, u95, u96, u97, u98, u99, u100, u101, u102, u103, u104, u105, u106, u107, u108, u109, u110, u111, u112, u113, u114, u115, u116, u117, u118, u119, u120, u121, u122, u123, u124, u125, u126, u127, u128, u129, u130, u131, u132, u133, u134, u135, u136, u137, u138, u139, u140, u141, u142, u143, u144, u145, u146, u147, u148, u149, u150, u151, u152, u153, u154, u155, u156, u157, u158, u159, u160, u161, u162, u163, u164, u165, u166, u167, u168, u169, u170, u171, u172, u173, u174, u175, u176, u177, u178, u179, u180, u181, u182, u183, u184, u185, u186, u187, u188, u189, u190, u191, u192, u193, u194, u195, u196], []⟩ wr := by
  conv => arg 2; whnf
  go_wp2_with fail
  (with_reducible refine hO.out.mono ?_)
  rintro e w8 ⟨v, M, rfl, hOwn, hmap, hap, hb8⟩
  clear hO
  have hMn : M.length = n := by have := congrArg List.length hmap; simpa [hn.out] using this
  obtain ⟨g, cap, rfl, hcap, hg8⟩ := own_lit hOwn hMn hn1
  clear k0 k1
  have hb9 := kept_new w8 (.cells #[.slice (some ⟨g, 0, none⟩) n cap, .int .i64 win] 24)
  have hP9 := PtBox.new w8 (.slice (some ⟨g, 0, none⟩) n cap) win
  have hOwn9 := hOwn.later hb9
  have hgP := hOwn.1.lt g rfl
  have hP8 := hb8.size
  obtain ⟨⟨s2, u⟩, hx⟩ := sps_i (L := M) (i := j) (by omega)
  have hsm : (L.map (·.1))[j]? = some s2 := by rw [← hmap]; exact map_fst hx
  obtain ⟨m2, hm2⟩ : ∃ m, s2.cs.length = m := ⟨_, rfl⟩
  have hM20 : ∀ y ∈ M, y.1.cs.length ≤ 20 := fun y hy => h20.out y.1 (by rw [← hmap]; exact List.mem_map.2 ⟨y, hy, rfl⟩)
  have hMq : OpsOk M := by
    intro y hy cp hcp
    have hys : y.1 ∈ L.map (·.1) := by rw [← hmap]; exact List.mem_map.2 ⟨y, hy, rfl⟩
    obtain ⟨z, hz, hz2⟩ := List.mem_map.1 hys
    exact hqo.out z hz cp (by rw [hz2]; exact hcp)
  have hb9' := kept_trans hb8 hb9
  have hr9 := hOwn9.1
  rw [hMn] at hr9
  obtain ⟨z0, z1, z2, z3, z4, z5, z6⟩ := row_step hr9 (by omega) hx
  have hLx : Hid (LxK wr w8.heap.size g n cap j m2 win M s2 u (w8.alloc (.cells #[.slice (some ⟨g, 0, none⟩) n cap, .int .i64 win] 24))) := ⟨hP9, hOwn9, hap, hMn, hx, hm2, hb9', by omega, hg8, hP8, h40, hM20, hMq⟩
  have p0 := hP9.c0
  have p1 := hP9.c1
  have pf0 := hP9.f 0
  have pf1 := hP9.f 1
  go_upto_region 9 with fail
  generalize hW9 : w8.alloc (.cells #[.slice (some ⟨g, 0, none⟩) n cap, .int .i64 win] 24) = W9 at *
  generalize hP2 : w8.heap.size = P2 at *
  replace hW9 := Lib.hid hW9
  replace hP2 := Lib.hid hP2
  have hgd := Lib.hid (hLx.out.gd_win (1073741824 + nn))
  rw [hmap] at hgd
  go_upto_region 25 with fail
  generalize W9.setCell ⟨P2, 1, none⟩ (.int .i64 (1073741824 + nn)) = W10 at *
  clear z0 z1 z2 z3 z4 z5 z6 p0 p1 pf0 pf1
  have hIg := hgd.out
  obtain ⟨vg, hPg, hBg, ⟨ag, ng, cg, rfl⟩, hCg⟩ := hIg.call (one1 hMay.out ht1 ht2)
  have d0 := hPg.c0
  have d1 := hPg.c1
  replace hCg := Lib.hid hCg
  have hIk := Lib.hid (hIr.out.later hBg)
  clear hgd hIg hPg hBg hLx hW9 hP2 hOwn9 hOwn hr9 hmap hap hMn hx hsm hM20 hMq hb9 hb9' hP9 hP8 hgP hg8 hcap hm2 hb8
  go_wp2_with ((with_reducible refine hCg.out.mono ?_); rintro e w11 ⟨rfl, hb11⟩; have hI11 := Lib.hid (hIk.out.later hb11); have k0 := hI11.out.1.1.c0; have k1 := hI11.out.1.1.c1; clear hb11)
  exact ⟨⟨2, by omega, by omega, rfl, hI11.out⟩, by simp [intOf]⟩
set_option maxRecDepth 1000000 in
set_option maxHeartbeats 16000000 in
theorem oneR2 (L : List (Sp × Value)) (win nn : Int) (w : World) (wn : (Lit.int IntKind.i64 nn).wf = true) (n : Nat) (a : Option Addr) (c : Nat)
    (h40 : n ≤ 40) (hlen : 1 ≤ n ∧ n ≤ 6) (hn1 : 0 < n) (ht1 : 1 ≤ nn) (ht2 : nn ≤ 1000) (hS : Hid (Small (List.map (fun x => x.fst) L)))
    (h20 : Hid (∀ (s : Sp), s ∈ List.map (fun x => x.fst) L → s.cs.length ≤ 20)) (hqo : Hid (OpsOk L)) (hMay : Hid (MayP (List.map (fun x => x.fst) L) win)) (hn : Hid (L.length = n))
    (u6 u8 u9 u10 u11 u12 u13 u14 u15 u16 u17 u18 u19 u20 u21 u22 u23 u24 u25 u26 u27 u28 u29 u30 u31 u32 u33 u34 u35 u36 u37 u38 u39 u40 u41 u42 u43 u44 u45 u46 u47 u48 u49 u50 u51 u52 u53 u54 u55 u56 u57 u58 u59 u60 u61 u62 u63 u64 u65 u66 u67 u68 u69 u70 u71 u72 u73 u74 u75 u76 u77 u78 u79 u80 u81 u82 u83 u84 u85 u86 u87 u88 u89 u90 u91 u92 u93 u94 u95 u96 u97 u98 u99 u100 u101 u102 u103 u104 u105 u106 u107 u108 u109 u110 u111 u112 u113 u114 u115 u116 u117 u118 u119 u120 u121 u122 u123 u124 u125 u126 u127 u128 u129 u130 u131 u132 u133 u134 u135 u136 u137 u138 u139 u140 u141 u142 u143 u144 u145 u146 u147 u148 u149 u150 u151 u152 u153 u154 u155 u156 u157 u158 u159 u160 u161 u162 u163 u164 u165 u166 u167 u168 u169 u170 u171 u172 u173 u174 u175 u176 u177 u178 u179 u180 u181 u182 u183 u184 u185 u186 u187 u188 u189 u190 u191 u192 u193 u194 u195 u196 : Value) (j : Nat) (hj : j < n) (hjn : (j : Int) < (n : Int)) (Q0 : Exit → Act → World → Prop) (wr : World)
    (hIr : Hid (OnK w a n c win L wr))
    (k0 : wr.cell? { block := w.heap.size, off := 0 } = some (Value.slice a n c)) (k1 : wr.cell? { block := w.heap.size, off := 1 } = some (Value.int IntKind.i64 win))
    (hO : Hid (Calls Try.prog 20 #[ptV (Value.slice a n c) win] wr fun e w' => ∃ v' L', e = Ending.returned (ptV v' win) ∧ OwnSps w' wr.heap.size v' L' ∧ List.map (fun x => x.fst) L' = List.map (fun x => x.fst) L ∧ Apart L' ∧ Below wr.heap.size wr w')) :
    Code.wp Try.prog body5
      (Exit.then (fun a' w' => (∃ u6 u7 u8 u9 u10 u11 u12 u13 u43 u44 u45 u46 u47 u48 u49 u50 u51 u52 u53 u54 u55 u56 u57 u58 u59 u60 u61 u62 u63 u64 u65 u66 u67 u68 u69 u70 u71 u72 u73 u74 u75 u76 u77 u78 u79 u80 u81 u82 u83 u84 u85 u86 u87 u88 u89 u90 u91 u92 u93 u94 u95 u96 u97 u98 u99 u100 u101 u102 u103 u104 u105 u106 u107 u108 u109 u110 u111 u112 u113 u114 u115 u116 u117 u118 u119 u120 u121 u122 u123 u124 u125 u126 u127 u128 u129 u130 u131 u132 u133 u134 u135 u136 u137 u138 u139 u140 u141 u142 u143 u144 u145 u146 u147 u148 u149 u150 u151 u152 u153 u154 u155 u156 u157 u158 u159 u160 u161 u162 u163 u164 u165 u166 u167 u168 u169 u170 u171 u172 u173 u174 u175 u176 u177 u178 u179 u180 u181 u182 u183 u184 u185 u186 u187 u188 u189 u190 u191 u192 u193 u194 u195, (∃ r : Nat, 1 ≤ r ∧ r ≤ 8 ∧ u7 = Value.int IntKind.i64 ↑r ∧ Hid (OnK w a n c win L w')) ∧
          a' = ⟨#[ptV (Value.slice a n c) win, Value.int IntKind.i64 ↑j, Value.int IntKind.i64 nn, Value.pointer (some { block := w.heap.size, off := 0 }), undef, undef, u6, u7, u8, u9, u10, u11, u12, u13, u14, u15, u16, u17, u18, u19, u20, u21, u22, u23, u24, u25, u26, u27, u28, u29, u30, u31, u32, u33, u34, u35, u36, u37, u38, u39, u40, u41, u42, u43, u44, u45, u46, u47, u48, u49, u50, u51, u52, u53, u54, u55, u56, u57, u58, u59, u60, u61, u62, u63, u64, u65, u66, u67, u68, u69, u70, u71, u72, u73, u74, u75, u76, u77, u78, u79, u80, u81, u82, u83, u84, u85, u86, u87, u88, u89, u90, u91, u92, u93, u94, u95, u96, u97, u98, u99, u100, u101, u102, u103, u104, u105, u106, u107, u108, u109, u110, u111, u112, u113, u114, u115, u116, u117, u118, u119, u120, u121, u122, u123, u124, u125, u126, u127, u128, u129, u130, u131, u132, u133, u134, u135, u136, u137, u138, u139, u140, u141, u142, u143, u144, u145, u146, u147, u148, u149, u150, u151, u152, u153, u154, u155, u156, u157, u158, u159, u160, u161, u162, u163, u164, u165, u166, u167, u168, u169, u170, u171, u172, u173, u174, u175, u176, u177, u178, u179, u180, u181, u182, u183, u184, u185, u186, u187, u188, u189, u190, u191, u192, u193, u194, u195, u196], []⟩) ∧
        8 - (intOf (a'.tmps.getD 7 undef)).toNat < 8 - (intOf ((#[ptV (Value.slice a n c) win, Value.int IntKind.i64 ↑j, Value.int IntKind.i64 nn, Value.pointer (some { block := w.heap.size, off := 0 }), undef, undef, u6, Value.int IntKind.i64 (((2 : Nat) : Int)), u8, u9, u10, u11, u12, u13, u14, u15, u16, u17, u18, u19, u20, u21, u22, u23, u24, u25, u26, u27, u28, u29, u30, u31, u32, u33, u34, u35, u36, u37, u38, u39, u40, u41, u42, u43, u44, u45, u46, u47, u48, u49, u50, u51, u52, u53, u54, u55, u56, u57, u58, u59, u60, u61, u62, u63, u64, u65, u66, u67, u68, u69, u70, u71, u72, u73, u74, u75, u76, u77, u78, u79, u80, u81, u82, u83, u84, u85, u86, u87, u88, u89, u90, u91, u92, u93, u94, u95, u96, u97, u98, u99, u100, u101, u102, u103, u104, u105, u106, u107, u108, u109, u110, u111, u112, u113, u114, u115, u116, u117, u118, u119, u120, u121, u122, u123, u124, u125, u126, u127, u128, u129, u130, u131, u132, u133, u134, u135, u136, u137, u138, u139, u140, u141, u142, u143, u144, u145, u146, u147, u148, u149, u150, u151, u152, u153, u154, u155, u156, u157, u158, u159, u160, u161, u162, u163, u164, u165, u166, u167, u168, u169, u170, u171, u172, u173, u174, u175, u176, u177, u178, u179, u180, u181, u182, u183, u184, u185, u186, u187, u188, u189, u190, u191, u192, u193, u194, u195, u196] : Array Value).getD 7 undef)).toNat) Q0)
      ⟨#[ptV (Value.slice a n c) win, Value.int IntKind.i64 ↑j, Value.int IntKind.i64 nn, Value.pointer (some { block := w.heap.size, off := 0 }), undef, undef, u6, Value.int IntKind.i64 (((2 : Nat) : Int)), u8, u9, u10, u11, u12, u13, u14, u15, u16, u17, u18, u19, u20, u21, u22, u23, u24, u25, u26, u27, u28, u29, u30, u31, u32, u33, u34, u35, u36, u37, u38, u39, u40, u41, u42, u43, u44, u45, u46, u47, u48, u49, u50, u51, u52, u53, u54, u55, u56, u57, u58, u59, u60, u61, u62, u63, u64, u65, u66, u67, u68, u69, u70, u71, u72, u73, u74, u75, u76, u77, u78, u79, u80, u81, u82, u83, u84, u85, u86, u87, u88, u89, u90, u91, u92, u93, u94, u95, u96, u97, u98, u99, u100, u101, u102, u103, u104, u105, u106, u107, u108, u109, u110, u111, u112, u113, u114, u115, u116, u117, u118, u119, u120, u121, u122, u123, u124, u125, u126, u127, u128, u129, u130, u131, u132, u133, u134, u135, u136, u137, u138, u139, u140, u141, u142, u143, u144, u145, u146, u147, u148, u149, u150, u151, u152, u153, u154, u155, u156, u157, u158, u159, u160, u161, u162, u163, u164, u165, u166, u167, u168, u169, u170, u171, u172, u173, u174, u175, u176, u177, u178, u179, u180, u181, u182, u183, u184, u185, u186, u187, u188, u189, u190, u191, u192, u193, u194, u195, u196], []⟩ wr := by
  conv => arg 2; whnf
  go_wp2_with fail
  (with_reducible refine hO.out.mono ?_)
  rintro e w8 ⟨v, M, rfl, hOwn, hmap, hap, hb8⟩
  clear hO
  have hMn : M.length = n := by have := congrArg List.length hmap; simpa [hn.out] using this
  obtain ⟨g, cap, rfl, hcap, hg8⟩ := own_lit hOwn hMn hn1
  clear k0 k1
  have hb9 := kept_new w8 (.cells #[.slice (some ⟨g, 0, none⟩) n cap, .int .i64 win] 24)
  have hP9 := PtBox.new w8 (.slice (some ⟨g, 0, none⟩) n cap) win
  have hOwn9 := hOwn.later hb9
  have hgP := hOwn.1.lt g rfl
  have hP8 := hb8.size
  obtain ⟨⟨s2, u⟩, hx⟩ := sps_i (L := M) (i := 0) (by omega)
  have hsm : (L.map (·.1))[0]? = some s2 := by rw [← hmap]; exact map_fst hx
  obtain ⟨m2, hm2⟩ : ∃ m, s2.cs.length = m := ⟨_, rfl⟩
  have hM20 : ∀ y ∈ M, y.1.cs.length ≤ 20 := fun y hy => h20.out y.1 (by rw [← hmap]; exact List.mem_map.2 ⟨y, hy, rfl⟩)
  have hMq : OpsOk M := by
    intro y hy cp hcp
    have hys : y.1 ∈ L.map (·.1) := by rw [← hmap]; exact List.mem_map.2 ⟨y, hy, rfl⟩
    obtain ⟨z, hz, hz2⟩ := List.mem_map.1 hys
    exact hqo.out z hz cp (by rw [hz2]; exact hcp)
  have hb9' := kept_trans hb8 hb9
  have hr9 := hOwn9.1
  rw [hMn] at hr9
  obtain ⟨z0, z1, z2, z3, z4, z5, z6⟩ := row_step hr9 (by omega) hx
  simp only [Nat.zero_mul, Nat.zero_add] at z0 z1 z2 z3 z4 z5 z6
  have pf4 := row_f hr9 4
  have hLx : Hid (LxK wr w8.heap.size g n cap 0 m2 win M s2 u (w8.alloc (.cells #[.slice (some ⟨g, 0, none⟩) n cap, .int .i64 win] 24))) := ⟨hP9, hOwn9, hap, hMn, hx, hm2, hb9', by omega, hg8, hP8, h40, hM20, hMq⟩
  have p0 := hP9.c0
  have p1 := hP9.c1
  have pf0 := hP9.f 0
  have pf1 := hP9.f 1
  go_upto_region 9 with fail
  generalize hW9 : w8.alloc (.cells #[.slice (some ⟨g, 0, none⟩) n cap, .int .i64 win] 24) = W9 at *
  generalize hP2 : w8.heap.size = P2 at *
  replace hW9 := Lib.hid hW9
  replace hP2 := Lib.hid hP2
  have hgd := hLx.out.gd_strict
  simp only [Nat.zero_mul, Nat.zero_add] at hgd
  rw [hmap] at hgd
  replace hgd := Lib.hid hgd
  have hn00 : (0 : Int) < n := by omega
  go_upto_region 25 with fail
  generalize W9.setCell ⟨g, 4, none⟩ (.bool true) = W10 at *
  clear pf4
  clear z0 z1 z2 z3 z4 z5 z6 p0 p1 pf0 pf1
  have hIg := hgd.out
  obtain ⟨vg, hPg, hBg, ⟨ag, ng, cg, rfl⟩, hCg⟩ := hIg.call (one2 hMay.out hsm)
  have d0 := hPg.c0
  have d1 := hPg.c1
  replace hCg := Lib.hid hCg
  have hIk := Lib.hid (hIr.out.later hBg)
  clear hgd hIg hPg hBg hLx hW9 hP2 hOwn9 hOwn hr9 hmap hap hMn hx hsm hM20 hMq hb9 hb9' hP9 hP8 hgP hg8 hcap hm2 hb8
  go_wp2_with ((with_reducible refine hCg.out.mono ?_); rintro e w11 ⟨rfl, hb11⟩; have hI11 := Lib.hid (hIk.out.later hb11); have k0 := hI11.out.1.1.c0; have k1 := hI11.out.1.1.c1; clear hb11)
  exact ⟨⟨3, by omega, by omega, rfl, hI11.out⟩, by simp [intOf]⟩
set_option maxRecDepth 1000000 in
set_option maxHeartbeats 16000000 in
theorem oneR3 (L : List (Sp × Value)) (win nn : Int) (w : World) (wn : (Lit.int IntKind.i64 nn).wf = true) (n : Nat) (a : Option Addr) (c : Nat)
    (h40 : n ≤ 40) (hlen : 1 ≤ n ∧ n ≤ 6) (hn1 : 0 < n) (ht1 : 1 ≤ nn) (ht2 : nn ≤ 1000) (hS : Hid (Small (List.map (fun x => x.fst) L)))
    (h20 : Hid (∀ (s : Sp), s ∈ List.map (fun x => x.fst) L → s.cs.length ≤ 20)) (hqo : Hid (OpsOk L)) (hMay : Hid (MayP (List.map (fun x => x.fst) L) win)) (hn : Hid (L.length = n))
    (u6 u8 u9 u10 u11 u12 u13 u14 u15 u16 u17 u18 u19 u20 u21 u22 u23 u24 u25 u26 u27 u28 u29 u30 u31 u32 u33 u34 u35 u36 u37 u38 u39 u40 u41 u42 u43 u44 u45 u46 u47 u48 u49 u50 u51 u52 u53 u54 u55 u56 u57 u58 u59 u60 u61 u62 u63 u64 u65 u66 u67 u68 u69 u70 u71 u72 u73 u74 u75 u76 u77 u78 u79 u80 u81 u82 u83 u84 u85 u86 u87 u88 u89 u90 u91 u92 u93 u94 u95 u96 u97 u98 u99 u100 u101 u102 u103 u104 u105 u106 u107 u108 u109 u110 u111 u112 u113 u114 u115 u116 u117 u118 u119 u120 u121 u122 u123 u124 u125 u126 u127 u128 u129 u130 u131 u132 u133 u134 u135 u136 u137 u138 u139 u140 u141 u142 u143 u144 u145 u146 u147 u148 u149 u150 u151 u152 u153 u154 u155 u156 u157 u158 u159 u160 u161 u162 u163 u164 u165 u166 u167 u168 u169 u170 u171 u172 u173 u174 u175 u176 u177 u178 u179 u180 u181 u182 u183 u184 u185 u186 u187 u188 u189 u190 u191 u192 u193 u194 u195 u196 : Value) (j : Nat) (hj : j < n) (hjn : (j : Int) < (n : Int)) (Q0 : Exit → Act → World → Prop) (wr : World)
    (hIr : Hid (OnK w a n c win L wr))
    (k0 : wr.cell? { block := w.heap.size, off := 0 } = some (Value.slice a n c)) (k1 : wr.cell? { block := w.heap.size, off := 1 } = some (Value.int IntKind.i64 win))
    (hO : Hid (Calls Try.prog 20 #[ptV (Value.slice a n c) win] wr fun e w' => ∃ v' L', e = Ending.returned (ptV v' win) ∧ OwnSps w' wr.heap.size v' L' ∧ List.map (fun x => x.fst) L' = List.map (fun x => x.fst) L ∧ Apart L' ∧ Below wr.heap.size wr w')) :
    Code.wp Try.prog body5
      (Exit.then (fun a' w' => (∃ u6 u7 u8 u9 u10 u11 u12 u13 u43 u44 u45 u46 u47 u48 u49 u50 u51 u52 u53 u54 u55 u56 u57 u58 u59 u60 u61 u62 u63 u64 u65 u66 u67 u68 u69 u70 u71 u72 u73 u74 u75 u76 u77 u78 u79 u80 u81 u82 u83 u84 u85 u86 u87 u88 u89 u90 u91 u92 u93 u94 u95 u96 u97 u98 u99 u100 u101 u102 u103 u104 u105 u106 u107 u108 u109 u110 u111 u112 u113 u114 u115 u116 u117 u118 u119 u120 u121 u122 u123 u124 u125 u126 u127 u128 u129 u130 u131 u132 u133 u134 u135 u136 u137 u138 u139 u140 u141 u142 u143 u144 u145 u146 u147 u148 u149 u150 u151 u152 u153 u154 u155 u156 u157 u158 u159 u160 u161 u162 u163 u164 u165 u166 u167 u168 u169 u170 u171 u172 u173 u174 u175 u176 u177 u178 u179 u180 u181 u182 u183 u184 u185 u186 u187 u188 u189 u190 u191 u192 u193 u194 u195, (∃ r : Nat, 1 ≤ r ∧ r ≤ 8 ∧ u7 = Value.int IntKind.i64 ↑r ∧ Hid (OnK w a n c win L w')) ∧
          a' = ⟨#[ptV (Value.slice a n c) win, Value.int IntKind.i64 ↑j, Value.int IntKind.i64 nn, Value.pointer (some { block := w.heap.size, off := 0 }), undef, undef, u6, u7, u8, u9, u10, u11, u12, u13, u14, u15, u16, u17, u18, u19, u20, u21, u22, u23, u24, u25, u26, u27, u28, u29, u30, u31, u32, u33, u34, u35, u36, u37, u38, u39, u40, u41, u42, u43, u44, u45, u46, u47, u48, u49, u50, u51, u52, u53, u54, u55, u56, u57, u58, u59, u60, u61, u62, u63, u64, u65, u66, u67, u68, u69, u70, u71, u72, u73, u74, u75, u76, u77, u78, u79, u80, u81, u82, u83, u84, u85, u86, u87, u88, u89, u90, u91, u92, u93, u94, u95, u96, u97, u98, u99, u100, u101, u102, u103, u104, u105, u106, u107, u108, u109, u110, u111, u112, u113, u114, u115, u116, u117, u118, u119, u120, u121, u122, u123, u124, u125, u126, u127, u128, u129, u130, u131, u132, u133, u134, u135, u136, u137, u138, u139, u140, u141, u142, u143, u144, u145, u146, u147, u148, u149, u150, u151, u152, u153, u154, u155, u156, u157, u158, u159, u160, u161, u162, u163, u164, u165, u166, u167, u168, u169, u170, u171, u172, u173, u174, u175, u176, u177, u178, u179, u180, u181, u182, u183, u184, u185, u186, u187, u188, u189, u190, u191, u192, u193, u194, u195, u196], []⟩) ∧
        8 - (intOf (a'.tmps.getD 7 undef)).toNat < 8 - (intOf ((#[ptV (Value.slice a n c) win, Value.int IntKind.i64 ↑j, Value.int IntKind.i64 nn, Value.pointer (some { block := w.heap.size, off := 0 }), undef, undef, u6, Value.int IntKind.i64 (((3 : Nat) : Int)), u8, u9, u10, u11, u12, u13, u14, u15, u16, u17, u18, u19, u20, u21, u22, u23, u24, u25, u26, u27, u28, u29, u30, u31, u32, u33, u34, u35, u36, u37, u38, u39, u40, u41, u42, u43, u44, u45, u46, u47, u48, u49, u50, u51, u52, u53, u54, u55, u56, u57, u58, u59, u60, u61, u62, u63, u64, u65, u66, u67, u68, u69, u70, u71, u72, u73, u74, u75, u76, u77, u78, u79, u80, u81, u82, u83, u84, u85, u86, u87, u88, u89, u90, u91, u92, u93, u94, u95, u96, u97, u98, u99, u100, u101, u102, u103, u104, u105, u106, u107, u108, u109, u110, u111, u112, u113, u114, u115, u116, u117, u118, u119, u120, u121, u122, u123, u124, u125, u126, u127, u128, u129, u130, u131, u132, u133, u134, u135, u136, u137, u138, u139, u140, u141, u142, u143, u144, u145, u146, u147, u148, u149, u150, u151, u152, u153, u154, u155, u156, u157, u158, u159, u160, u161, u162, u163, u164, u165, u166, u167, u168, u169, u170, u171, u172, u173, u174, u175, u176, u177, u178, u179, u180, u181, u182, u183, u184, u185, u186, u187, u188, u189, u190, u191, u192, u193, u194, u195, u196] : Array Value).getD 7 undef)).toNat) Q0)
      ⟨#[ptV (Value.slice a n c) win, Value.int IntKind.i64 ↑j, Value.int IntKind.i64 nn, Value.pointer (some { block := w.heap.size, off := 0 }), undef, undef, u6, Value.int IntKind.i64 (((3 : Nat) : Int)), u8, u9, u10, u11, u12, u13, u14, u15, u16, u17, u18, u19, u20, u21, u22, u23, u24, u25, u26, u27, u28, u29, u30, u31, u32, u33, u34, u35, u36, u37, u38, u39, u40, u41, u42, u43, u44, u45, u46, u47, u48, u49, u50, u51, u52, u53, u54, u55, u56, u57, u58, u59, u60, u61, u62, u63, u64, u65, u66, u67, u68, u69, u70, u71, u72, u73, u74, u75, u76, u77, u78, u79, u80, u81, u82, u83, u84, u85, u86, u87, u88, u89, u90, u91, u92, u93, u94, u95, u96, u97, u98, u99, u100, u101, u102, u103, u104, u105, u106, u107, u108, u109, u110, u111, u112, u113, u114, u115, u116, u117, u118, u119, u120, u121, u122, u123, u124, u125, u126, u127, u128, u129, u130, u131, u132, u133, u134, u135, u136, u137, u138, u139, u140, u141, u142, u143, u144, u145, u146, u147, u148, u149, u150, u151, u152, u153, u154, u155, u156, u157, u158, u159, u160, u161, u162, u163, u164, u165, u166, u167, u168, u169, u170, u171, u172, u173, u174, u175, u176, u177, u178, u179, u180, u181, u182, u183, u184, u185, u186, u187, u188, u189, u190, u191, u192, u193, u194, u195, u196], []⟩ wr := by
  conv => arg 2; whnf
  go_wp2_with fail
  (with_reducible refine hO.out.mono ?_)
  rintro e w8 ⟨v, M, rfl, hOwn, hmap, hap, hb8⟩
  clear hO
  have hMn : M.length = n := by have := congrArg List.length hmap; simpa [hn.out] using this
  obtain ⟨g, cap, rfl, hcap, hg8⟩ := own_lit hOwn hMn hn1
  clear k0 k1
  have hb9 := kept_new w8 (.cells #[.slice (some ⟨g, 0, none⟩) n cap, .int .i64 win] 24)
  have hP9 := PtBox.new w8 (.slice (some ⟨g, 0, none⟩) n cap) win
  have hOwn9 := hOwn.later hb9
  have hgP := hOwn.1.lt g rfl
  have hP8 := hb8.size
  obtain ⟨⟨s2, u⟩, hx⟩ := sps_i (L := M) (i := j) (by omega)
  have hsm : (L.map (·.1))[j]? = some s2 := by rw [← hmap]; exact map_fst hx
  obtain ⟨m2, hm2⟩ : ∃ m, s2.cs.length = m := ⟨_, rfl⟩
  have hM20 : ∀ y ∈ M, y.1.cs.length ≤ 20 := fun y hy => h20.out y.1 (by rw [← hmap]; exact List.mem_map.2 ⟨y, hy, rfl⟩)
  have hMq : OpsOk M := by
    intro y hy cp hcp
    have hys : y.1 ∈ L.map (·.1) := by rw [← hmap]; exact List.mem_map.2 ⟨y, hy, rfl⟩
    obtain ⟨z, hz, hz2⟩ := List.mem_map.1 hys
    exact hqo.out z hz cp (by rw [hz2]; exact hcp)
  have hb9' := kept_trans hb8 hb9
  have hr9 := hOwn9.1
  rw [hMn] at hr9
  obtain ⟨z0, z1, z2, z3, z4, z5, z6⟩ := row_step hr9 (by omega) hx
  have f1 := row_f hr9 (j * 6 + 1)
  have hLx : Hid (LxK wr w8.heap.size g n cap j m2 win M s2 u (w8.alloc (.cells #[.slice (some ⟨g, 0, none⟩) n cap, .int .i64 win] 24))) := ⟨hP9, hOwn9, hap, hMn, hx, hm2, hb9', by omega, hg8, hP8, h40, hM20, hMq⟩
  have p0 := hP9.c0
  have p1 := hP9.c1
  have pf0 := hP9.f 0
  have pf1 := hP9.f 1
  go_upto_region 9 with fail
  generalize hW9 : w8.alloc (.cells #[.slice (some ⟨g, 0, none⟩) n cap, .int .i64 win] 24) = W9 at *
  generalize hP2 : w8.heap.size = P2 at *
  replace hW9 := Lib.hid hW9
  replace hP2 := Lib.hid hP2
  have hgd := hLx.out.gd_num (s' := { s2 with kind := 5 + nn }) (f := 1) (k := 5 + nn) (spsCells_set1 hx _) rfl
  rw [hmap] at hgd
  replace hgd := Lib.hid hgd
  go_upto_region 25 with fail
  generalize W9.setCell ⟨g, j * 6 + 1, none⟩ (.int .i64 (5 + nn)) = W10 at *
  clear f1
  clear z0 z1 z2 z3 z4 z5 z6 p0 p1 pf0 pf1
  have hIg := hgd.out
  obtain ⟨vg, hPg, hBg, ⟨ag, ng, cg, rfl⟩, hCg⟩ := hIg.call (one3 hMay.out ht1 ht2 hsm)
  have d0 := hPg.c0
  have d1 := hPg.c1
  replace hCg := Lib.hid hCg
  have hIk := Lib.hid (hIr.out.later hBg)
  clear hgd hIg hPg hBg hLx hW9 hP2 hOwn9 hOwn hr9 hmap hap hMn hx hsm hM20 hMq hb9 hb9' hP9 hP8 hgP hg8 hcap hm2 hb8
  go_wp2_with ((with_reducible refine hCg.out.mono ?_); rintro e w11 ⟨rfl, hb11⟩; have hI11 := Lib.hid (hIk.out.later hb11); have k0 := hI11.out.1.1.c0; have k1 := hI11.out.1.1.c1; clear hb11)
  exact ⟨⟨4, by omega, by omega, rfl, hI11.out⟩, by simp [intOf]⟩
set_option maxRecDepth 1000000 in
set_option maxHeartbeats 16000000 in
theorem oneR4 (L : List (Sp × Value)) (win nn : Int) (w : World) (wn : (Lit.int IntKind.i64 nn).wf = true) (n : Nat) (a : Option Addr) (c : Nat)
    (h40 : n ≤ 40) (hlen : 1 ≤ n ∧ n ≤ 6) (hn1 : 0 < n) (ht1 : 1 ≤ nn) (ht2 : nn ≤ 1000) (hS : Hid (Small (List.map (fun x => x.fst) L)))
    (h20 : Hid (∀ (s : Sp), s ∈ List.map (fun x => x.fst) L → s.cs.length ≤ 20)) (hqo : Hid (OpsOk L)) (hMay : Hid (MayP (List.map (fun x => x.fst) L) win)) (hn : Hid (L.length = n))
    (u6 u8 u9 u10 u11 u12 u13 u14 u15 u16 u17 u18 u19 u20 u21 u22 u23 u24 u25 u26 u27 u28 u29 u30 u31 u32 u33 u34 u35 u36 u37 u38 u39 u40 u41 u42 u43 u44 u45 u46 u47 u48 u49 u50 u51 u52 u53 u54 u55 u56 u57 u58 u59 u60 u61 u62 u63 u64 u65 u66 u67 u68 u69 u70 u71 u72 u73 u74 u75 u76 u77 u78 u79 u80 u81 u82 u83 u84 u85 u86 u87 u88 u89 u90 u91 u92 u93 u94 u95 u96 u97 u98 u99 u100 u101 u102 u103 u104 u105 u106 u107 u108 u109 u110 u111 u112 u113 u114 u115 u116 u117 u118 u119 u120 u121 u122 u123 u124 u125 u126 u127 u128 u129 u130 u131 u132 u133 u134 u135 u136 u137 u138 u139 u140 u141 u142 u143 u144 u145 u146 u147 u148 u149 u150 u151 u152 u153 u154 u155 u156 u157 u158 u159 u160 u161 u162 u163 u164 u165 u166 u167 u168 u169 u170 u171 u172 u173 u174 u175 u176 u177 u178 u179 u180 u181 u182 u183 u184 u185 u186 u187 u188 u189 u190 u191 u192 u193 u194 u195 u196 : Value) (j : Nat) (hj : j < n) (hjn : (j : Int) < (n : Int)) (Q0 : Exit → Act → World → Prop) (wr : World)
    (hIr : Hid (OnK w a n c win L wr))
    (k0 : wr.cell? { block := w.heap.size, off := 0 } = some (Value.slice a n c)) (k1 : wr.cell? { block := w.heap.size, off := 1 } = some (Value.int IntKind.i64 win))
    (hO : Hid (Calls Try.prog 20 #[ptV (Value.slice a n c) win] wr fun e w' => ∃ v' L', e = Ending.returned (ptV v' win) ∧ OwnSps w' wr.heap.size v' L' ∧ List.map (fun x => x.fst) L' = List.map (fun x => x.fst) L ∧ Apart L' ∧ Below wr.heap.size wr w')) :
    Code.wp Try.prog body5
      (Exit.then (fun a' w' => (∃ u6 u7 u8 u9 u10 u11 u12 u13 u43 u44 u45 u46 u47 u48 u49 u50 u51 u52 u53 u54 u55 u56 u57 u58 u59 u60 u61 u62 u63 u64 u65 u66 u67 u68 u69 u70 u71 u72 u73 u74 u75 u76 u77 u78 u79 u80 u81 u82 u83 u84 u85 u86 u87 u88 u89 u90 u91 u92 u93 u94 u95 u96 u97 u98 u99 u100 u101 u102 u103 u104 u105 u106 u107 u108 u109 u110 u111 u112 u113 u114 u115 u116 u117 u118 u119 u120 u121 u122 u123 u124 u125 u126 u127 u128 u129 u130 u131 u132 u133 u134 u135 u136 u137 u138 u139 u140 u141 u142 u143 u144 u145 u146 u147 u148 u149 u150 u151 u152 u153 u154 u155 u156 u157 u158 u159 u160 u161 u162 u163 u164 u165 u166 u167 u168 u169 u170 u171 u172 u173 u174 u175 u176 u177 u178 u179 u180 u181 u182 u183 u184 u185 u186 u187 u188 u189 u190 u191 u192 u193 u194 u195, (∃ r : Nat, 1 ≤ r ∧ r ≤ 8 ∧ u7 = Value.int IntKind.i64 ↑r ∧ Hid (OnK w a n c win L w')) ∧
          a' = ⟨#[ptV (Value.slice a n c) win, Value.int IntKind.i64 ↑j, Value.int IntKind.i64 nn, Value.pointer (some { block := w.heap.size, off := 0 }), undef, undef, u6, u7, u8, u9, u10, u11, u12, u13, u14, u15, u16, u17, u18, u19, u20, u21, u22, u23, u24, u25, u26, u27, u28, u29, u30, u31, u32, u33, u34, u35, u36, u37, u38, u39, u40, u41, u42, u43, u44, u45, u46, u47, u48, u49, u50, u51, u52, u53, u54, u55, u56, u57, u58, u59, u60, u61, u62, u63, u64, u65, u66, u67, u68, u69, u70, u71, u72, u73, u74, u75, u76, u77, u78, u79, u80, u81, u82, u83, u84, u85, u86, u87, u88, u89, u90, u91, u92, u93, u94, u95, u96, u97, u98, u99, u100, u101, u102, u103, u104, u105, u106, u107, u108, u109, u110, u111, u112, u113, u114, u115, u116, u117, u118, u119, u120, u121, u122, u123, u124, u125, u126, u127, u128, u129, u130, u131, u132, u133, u134, u135, u136, u137, u138, u139, u140, u141, u142, u143, u144, u145, u146, u147, u148, u149, u150, u151, u152, u153, u154, u155, u156, u157, u158, u159, u160, u161, u162, u163, u164, u165, u166, u167, u168, u169, u170, u171, u172, u173, u174, u175, u176, u177, u178, u179, u180, u181, u182, u183, u184, u185, u186, u187, u188, u189, u190, u191, u192, u193, u194, u195, u196], []⟩) ∧
        8 - (intOf (a'.tmps.getD 7 undef)).toNat < 8 - (intOf ((#[ptV (Value.slice a n c) win, Value.int IntKind.i64 ↑j, Value.int IntKind.i64 nn, Value.pointer (some { block := w.heap.size, off := 0 }), undef, undef, u6, Value.int IntKind.i64 (((4 : Nat) : Int)), u8, u9, u10, u11, u12, u13, u14, u15, u16, u17, u18, u19, u20, u21, u22, u23, u24, u25, u26, u27, u28, u29, u30, u31, u32, u33, u34, u35, u36, u37, u38, u39, u40, u41, u42, u43, u44, u45, u46, u47, u48, u49, u50, u51, u52, u53, u54, u55, u56, u57, u58, u59, u60, u61, u62, u63, u64, u65, u66, u67, u68, u69, u70, u71, u72, u73, u74, u75, u76, u77, u78, u79, u80, u81, u82, u83, u84, u85, u86, u87, u88, u89, u90, u91, u92, u93, u94, u95, u96, u97, u98, u99, u100, u101, u102, u103, u104, u105, u106, u107, u108, u109, u110, u111, u112, u113, u114, u115, u116, u117, u118, u119, u120, u121, u122, u123, u124, u125, u126, u127, u128, u129, u130, u131, u132, u133, u134, u135, u136, u137, u138, u139, u140, u141, u142, u143, u144, u145, u146, u147, u148, u149, u150, u151, u152, u153, u154, u155, u156, u157, u158, u159, u160, u161, u162, u163, u164, u165, u166, u167, u168, u169, u170, u171, u172, u173, u174, u175, u176, u177, u178, u179, u180, u181, u182, u183, u184, u185, u186, u187, u188, u189, u190, u191, u192, u193, u194, u195, u196] : Array Value).getD 7 undef)).toNat) Q0)
      ⟨#[ptV (Value.slice a n c) win, Value.int IntKind.i64 ↑j, Value.int IntKind.i64 nn, Value.pointer (some { block := w.heap.size, off := 0 }), undef, undef, u6, Value.int IntKind.i64 (((4 : Nat) : Int)), u8, u9, u10, u11, u12, u13, u14, u15, u16, u17, u18, u19, u20, u21, u22, u23, u24, u25, u26, u27, u28, u29, u30, u31, u32, u33, u34, u35, u36, u37, u38, u39, u40, u41, u42, u43, u44, u45, u46, u47, u48, u49, u50, u51, u52, u53, u54, u55, u56, u57, u58, u59, u60, u61, u62, u63, u64, u65, u66, u67, u68, u69, u70, u71, u72, u73, u74, u75, u76, u77, u78, u79, u80, u81, u82, u83, u84, u85, u86, u87, u88, u89, u90, u91, u92, u93, u94, u95, u96, u97, u98, u99, u100, u101, u102, u103, u104, u105, u106, u107, u108, u109, u110, u111, u112, u113, u114, u115, u116, u117, u118, u119, u120, u121, u122, u123, u124, u125, u126, u127, u128, u129, u130, u131, u132, u133, u134, u135, u136, u137, u138, u139, u140, u141, u142, u143, u144, u145, u146, u147, u148, u149, u150, u151, u152, u153, u154, u155, u156, u157, u158, u159, u160, u161, u162, u163, u164, u165, u166, u167, u168, u169, u170, u171, u172, u173, u174, u175, u176, u177, u178, u179, u180, u181, u182, u183, u184, u185, u186, u187, u188, u189, u190, u191, u192, u193, u194, u195, u196], []⟩ wr := by
  conv => arg 2; whnf
  by_cases hn6 : n = 6
  · replace hn6 := Lib.hid hn6
    go_wp2_with fail
    (with_reducible refine hO.out.mono ?_)
    rintro e w8 ⟨v, M, rfl, hOwn, hmap, hap, hb8⟩
    clear hO
    have hMn : M.length = n := by have := congrArg List.length hmap; simpa [hn.out] using this
    obtain ⟨g, cap, rfl, hcap, hg8⟩ := own_lit hOwn hMn hn1
    clear k0 k1
    have hb9 := kept_new w8 (.cells #[.slice (some ⟨g, 0, none⟩) n cap, .int .i64 win] 24)
    have hP9 := PtBox.new w8 (.slice (some ⟨g, 0, none⟩) n cap) win
    have hOwn9 := hOwn.later hb9
    have hgP := hOwn.1.lt g rfl
    have hP8 := hb8.size
    obtain ⟨⟨s2, u⟩, hx⟩ := sps_i (L := M) (i := j) (by omega)
    have hsm : (L.map (·.1))[j]? = some s2 := by rw [← hmap]; exact map_fst hx
    obtain ⟨m2, hm2⟩ : ∃ m, s2.cs.length = m := ⟨_, rfl⟩
    have hM20 : ∀ y ∈ M, y.1.cs.length ≤ 20 := fun y hy => h20.out y.1 (by rw [← hmap]; exact List.mem_map.2 ⟨y, hy, rfl⟩)
    have hMq : OpsOk M := by
      intro y hy cp hcp
      have hys : y.1 ∈ L.map (·.1) := by rw [← hmap]; exact List.mem_map.2 ⟨y, hy, rfl⟩
      obtain ⟨z, hz, hz2⟩ := List.mem_map.1 hys
      exact hqo.out z hz cp (by rw [hz2]; exact hcp)
    have hb9' := kept_trans hb8 hb9
    have hr9 := hOwn9.1
    rw [hMn] at hr9
    obtain ⟨z0, z1, z2, z3, z4, z5, z6⟩ := row_step hr9 (by omega) hx
    have hLx : Hid (LxK wr w8.heap.size g n cap j m2 win M s2 u (w8.alloc (.cells #[.slice (some ⟨g, 0, none⟩) n cap, .int .i64 win] 24))) := ⟨hP9, hOwn9, hap, hMn, hx, hm2, hb9', by omega, hg8, hP8, h40, hM20, hMq⟩
    have p0 := hP9.c0
    have p1 := hP9.c1
    have pf0 := hP9.f 0
    have pf1 := hP9.f 1
    go_upto_region 9 with fail
    generalize hW9 : w8.alloc (.cells #[.slice (some ⟨g, 0, none⟩) n cap, .int .i64 win] 24) = W9 at *
    generalize hP2 : w8.heap.size = P2 at *
    replace hW9 := Lib.hid hW9
    replace hP2 := Lib.hid hP2
    obtain ⟨j0, hj0, hy0, hy1, hy2⟩ := info_parts Try.info35
    replace hj0 := Lib.hid hj0
    have hb63 : n + 1 ≤ maxLen := by unfold maxLen; omega
    have hb64 : (n + 1) * 64 ≤ 140737488355328 := by omega
    have hBs := hb9'.size
    have hap0 : ApK wr P2 win (.slice (some ⟨g, 0, none⟩) n cap) M W9 := ⟨hP9, hOwn9, hb9', hP8⟩
    have hA := fun (W2 : World) (v' : Value) (tmp : Obj) => ApK.app (W2 := W2) (v' := v') (tmp := tmp) (z := sTwice nn) hap0 rfl
    rw [hMn] at hA
    replace hA := Lib.hid hA
    have hckA := Lib.hid (ck_app (zs := [(sTwice nn, nilS)]) hLx.out.all_ck (by simp) (fun z hz => by rw [List.mem_singleton.1 hz]; rfl) (by omega))
    have hmapA : Hid ((M ++ [(sTwice nn, nilS)]).map (·.1) = L.map (·.1) ++ [sTwice nn]) := by show _ = _; rw [List.map_append, hmap]; rfl
    have hnew := Lib.hid (cells_newA W9 [.bool true, .int .i64 0, .int .i64 1, .int .i64 (1 + nn), .bool false, nilS] 35)
    have hrr := Lib.hid hr9
    go_upto_region 25 with (first
      | (at_builtin; refine wpList_append_cells rfl (.tmp 75) (.tmp 79) 22 rfl wr.heap.size 35 j0 _ 6 64 Try.underlying22 hj0.out hy0 hy1 hy2 rfl (by decide) _ n (spsCells M) rfl (World.ownsRow.alloc hrr.out _) (some ⟨W9.heap.size, 0, none⟩) 1 1 [.bool true, .int .i64 0, .int .i64 1, .int .i64 (1 + nn), .bool false, nilS] rfl rfl hnew.out (by simp [Value.oneCell']) hb63 hb64 (by rw [World.size_alloc]; exact Nat.le_succ_of_le hBs) ?_; intro v' w10 hown' hgrow; obtain ⟨a6, c6, rfl, -⟩ := cells_of_row hown'; obtain ⟨hP10, hK10⟩ := hA.out w10 _ _ hgrow hown'; have y0 := hP10.c0; have yf := hP10.f 0; replace hK10 := Lib.hid hK10; replace hP10 := Lib.hid hP10; clear hown' hgrow)
      | fail)
    have hgd := hK10.out.gd hckA.out
    rw [hmapA.out] at hgd
    replace hgd := Lib.hid hgd
    generalize w10.setCell ⟨P2, 0, none⟩ (.slice a6 (n + 1) c6) = W10 at *
    clear y0 yf hP10 hK10 hap0 hA hckA hmapA hnew hrr hBs hj0 hy0 hy1 hy2
    clear z0 z1 z2 z3 z4 z5 z6 p0 p1 pf0 pf1
    have hIg := hgd.out
    obtain ⟨vg, hPg, hBg, ⟨ag, ng, cg, rfl⟩, hCg⟩ := hIg.call (one4b hMay.out ht1 ht2 (by rw [List.length_map, hn.out]; exact hn6.out))
    have d0 := hPg.c0
    have d1 := hPg.c1
    replace hCg := Lib.hid hCg
    have hIk := Lib.hid (hIr.out.later hBg)
    clear hgd hIg hPg hBg hLx hW9 hP2 hOwn9 hOwn hr9 hmap hap hMn hx hsm hM20 hMq hb9 hb9' hP9 hP8 hgP hg8 hcap hm2 hb8
    have e6 : ((n : Int) == 6) = true := by have := hn6.out; simp; omega
    clear hn6
    go_wp2_with ((with_reducible refine hCg.out.mono ?_); rintro e w11 ⟨rfl, hb11⟩; have hI11 := Lib.hid (hIk.out.later hb11); have k0 := hI11.out.1.1.c0; have k1 := hI11.out.1.1.c1; clear hb11)
    exact ⟨⟨5, by omega, by omega, rfl, hI11.out⟩, by simp [intOf]⟩
  · replace hn6 := Lib.hid hn6
    go_wp2_with fail
    (with_reducible refine hO.out.mono ?_)
    rintro e w8 ⟨v, M, rfl, hOwn, hmap, hap, hb8⟩
    clear hO
    have hMn : M.length = n := by have := congrArg List.length hmap; simpa [hn.out] using this
    obtain ⟨g, cap, rfl, hcap, hg8⟩ := own_lit hOwn hMn hn1
    clear k0 k1
    have hb9 := kept_new w8 (.cells #[.slice (some ⟨g, 0, none⟩) n cap, .int .i64 win] 24)
    have hP9 := PtBox.new w8 (.slice (some ⟨g, 0, none⟩) n cap) win
    have hOwn9 := hOwn.later hb9
    have hgP := hOwn.1.lt g rfl
    have hP8 := hb8.size
    obtain ⟨⟨s2, u⟩, hx⟩ := sps_i (L := M) (i := j) (by omega)
    have hsm : (L.map (·.1))[j]? = some s2 := by rw [← hmap]; exact map_fst hx
    obtain ⟨m2, hm2⟩ : ∃ m, s2.cs.length = m := ⟨_, rfl⟩
    have hM20 : ∀ y ∈ M, y.1.cs.length ≤ 20 := fun y hy => h20.out y.1 (by rw [← hmap]; exact List.mem_map.2 ⟨y, hy, rfl⟩)
    have hMq : OpsOk M := by
      intro y hy cp hcp
      have hys : y.1 ∈ L.map (·.1) := by rw [← hmap]; exact List.mem_map.2 ⟨y, hy, rfl⟩
      obtain ⟨z, hz, hz2⟩ := List.mem_map.1 hys
      exact hqo.out z hz cp (by rw [hz2]; exact hcp)
    have hb9' := kept_trans hb8 hb9
    have hr9 := hOwn9.1
    rw [hMn] at hr9
    obtain ⟨z0, z1, z2, z3, z4, z5, z6⟩ := row_step hr9 (by omega) hx
    have hLx : Hid (LxK wr w8.heap.size g n cap j m2 win M s2 u (w8.alloc (.cells #[.slice (some ⟨g, 0, none⟩) n cap, .int .i64 win] 24))) := ⟨hP9, hOwn9, hap, hMn, hx, hm2, hb9', by omega, hg8, hP8, h40, hM20, hMq⟩
    have p0 := hP9.c0
    have p1 := hP9.c1
    have pf0 := hP9.f 0
    have pf1 := hP9.f 1
    go_upto_region 9 with fail
    generalize hW9 : w8.alloc (.cells #[.slice (some ⟨g, 0, none⟩) n cap, .int .i64 win] 24) = W9 at *
    generalize hP2 : w8.heap.size = P2 at *
    replace hW9 := Lib.hid hW9
    replace hP2 := Lib.hid hP2
    obtain ⟨j0, hj0, hy0, hy1, hy2⟩ := info_parts Try.info35
    replace hj0 := Lib.hid hj0
    have hb63 : n + 1 ≤ maxLen := by unfold maxLen; omega
    have hb64 : (n + 1) * 64 ≤ 140737488355328 := by omega
    have hBs := hb9'.size
    have hap0 : ApK wr P2 win (.slice (some ⟨g, 0, none⟩) n cap) M W9 := ⟨hP9, hOwn9, hb9', hP8⟩
    have hA := fun (W2 : World) (v' : Value) (tmp : Obj) => ApK.app (W2 := W2) (v' := v') (tmp := tmp) (z := sTwice nn) hap0 rfl
    rw [hMn] at hA
    replace hA := Lib.hid hA
    have hckA := Lib.hid (ck_app (zs := [(sTwice nn, nilS)]) hLx.out.all_ck (by simp) (fun z hz => by rw [List.mem_singleton.1 hz]; rfl) (by omega))
    have hmapA : Hid ((M ++ [(sTwice nn, nilS)]).map (·.1) = L.map (·.1) ++ [sTwice nn]) := by show _ = _; rw [List.map_append, hmap]; rfl
    have hnew := Lib.hid (cells_newA W9 [.bool true, .int .i64 0, .int .i64 1, .int .i64 (1 + nn), .bool false, nilS] 35)
    have hrr := Lib.hid hr9
    go_upto_region 25 with (first
      | (at_builtin; refine wpList_append_cells rfl (.tmp 75) (.tmp 79) 22 rfl wr.heap.size 35 j0 _ 6 64 Try.underlying22 hj0.out hy0 hy1 hy2 rfl (by decide) _ n (spsCells M) rfl (World.ownsRow.alloc hrr.out _) (some ⟨W9.heap.size, 0, none⟩) 1 1 [.bool true, .int .i64 0, .int .i64 1, .int .i64 (1 + nn), .bool false, nilS] rfl rfl hnew.out (by simp [Value.oneCell']) hb63 hb64 (by rw [World.size_alloc]; exact Nat.le_succ_of_le hBs) ?_; intro v' w10 hown' hgrow; obtain ⟨a6, c6, rfl, -⟩ := cells_of_row hown'; obtain ⟨hP10, hK10⟩ := hA.out w10 _ _ hgrow hown'; have y0 := hP10.c0; have yf := hP10.f 0; replace hK10 := Lib.hid hK10; replace hP10 := Lib.hid hP10; clear hown' hgrow)
      | fail)
    have hgd := hK10.out.gd hckA.out
    rw [hmapA.out] at hgd
    replace hgd := Lib.hid hgd
    generalize w10.setCell ⟨P2, 0, none⟩ (.slice a6 (n + 1) c6) = W10 at *
    clear y0 yf hP10 hK10 hap0 hA hckA hmapA hnew hrr hBs hj0 hy0 hy1 hy2
    clear z0 z1 z2 z3 z4 z5 z6 p0 p1 pf0 pf1
    have hIg := hgd.out
    obtain ⟨vg, hPg, hBg, ⟨ag, ng, cg, rfl⟩, hCg⟩ := hIg.call (one4 hMay.out ht1 ht2 (by rw [List.length_map, hn.out]; have := hn6.out; omega))
    have d0 := hPg.c0
    have d1 := hPg.c1
    replace hCg := Lib.hid hCg
    have hIk := Lib.hid (hIr.out.later hBg)
    clear hgd hIg hPg hBg hLx hW9 hP2 hOwn9 hOwn hr9 hmap hap hMn hx hsm hM20 hMq hb9 hb9' hP9 hP8 hgP hg8 hcap hm2 hb8
    have e6 : ((n : Int) == 6) = false := by have := hn6.out; simp; omega
    clear hn6
    rw [show (((L.map (·.1)).length : Nat) : Int) = n by rw [List.length_map, hn.out]] at hCg
    go_wp2_with ((with_reducible refine hCg.out.mono ?_); rintro e w11 ⟨rfl, hb11⟩; have hI11 := Lib.hid (hIk.out.later hb11); have k0 := hI11.out.1.1.c0; have k1 := hI11.out.1.1.c1; clear hb11)
    exact ⟨⟨5, by omega, by omega, rfl, hI11.out⟩, by simp [intOf]⟩
set_option maxRecDepth 1000000 in
set_option maxHeartbeats 16000000 in
theorem oneR5 (L : List (Sp × Value)) (win nn : Int) (w : World) (wn : (Lit.int IntKind.i64 nn).wf = true) (n : Nat) (a : Option Addr) (c : Nat)
    (h40 : n ≤ 40) (hlen : 1 ≤ n ∧ n ≤ 6) (hn1 : 0 < n) (ht1 : 1 ≤ nn) (ht2 : nn ≤ 1000) (hS : Hid (Small (List.map (fun x => x.fst) L)))
    (h20 : Hid (∀ (s : Sp), s ∈ List.map (fun x => x.fst) L → s.cs.length ≤ 20)) (hqo : Hid (OpsOk L)) (hMay : Hid (MayP (List.map (fun x => x.fst) L) win)) (hn : Hid (L.length = n))
    (u6 u8 u9 u10 u11 u12 u13 u14 u15 u16 u17 u18 u19 u20 u21 u22 u23 u24 u25 u26 u27 u28 u29 u30 u31 u32 u33 u34 u35 u36 u37 u38 u39 u40 u41 u42 u43 u44 u45 u46 u47 u48 u49 u50 u51 u52 u53 u54 u55 u56 u57 u58 u59 u60 u61 u62 u63 u64 u65 u66 u67 u68 u69 u70 u71 u72 u73 u74 u75 u76 u77 u78 u79 u80 u81 u82 u83 u84 u85 u86 u87 u88 u89 u90 u91 u92 u93 u94 u95 u96 u97 u98 u99 u100 u101 u102 u103 u104 u105 u106 u107 u108 u109 u110 u111 u112 u113 u114 u115 u116 u117 u118 u119 u120 u121 u122 u123 u124 u125 u126 u127 u128 u129 u130 u131 u132 u133 u134 u135 u136 u137 u138 u139 u140 u141 u142 u143 u144 u145 u146 u147 u148 u149 u150 u151 u152 u153 u154 u155 u156 u157 u158 u159 u160 u161 u162 u163 u164 u165 u166 u167 u168 u169 u170 u171 u172 u173 u174 u175 u176 u177 u178 u179 u180 u181 u182 u183 u184 u185 u186 u187 u188 u189 u190 u191 u192 u193 u194 u195 u196 : Value) (j : Nat) (hj : j < n) (hjn : (j : Int) < (n : Int)) (Q0 : Exit → Act → World → Prop) (wr : World)
    (hIr : Hid (OnK w a n c win L wr))
    (k0 : wr.cell? { block := w.heap.size, off := 0 } = some (Value.slice a n c)) (k1 : wr.cell? { block := w.heap.size, off := 1 } = some (Value.int IntKind.i64 win))
    (hO : Hid (Calls Try.prog 20 #[ptV (Value.slice a n c) win] wr fun e w' => ∃ v' L', e = Ending.returned (ptV v' win) ∧ OwnSps w' wr.heap.size v' L' ∧ List.map (fun x => x.fst) L' = List.map (fun x => x.fst) L ∧ Apart L' ∧ Below wr.heap.size wr w')) :
    Code.wp Try.prog body5
      (Exit.then (fun a' w' => (∃ u6 u7 u8 u9 u10 u11 u12 u13 u43 u44 u45 u46 u47 u48 u49 u50 u51 u52 u53 u54 u55 u56 u57 u58 u59 u60 u61 u62 u63 u64 u65 u66 u67 u68 u69 u70 u71 u72 u73 u74 u75 u76 u77 u78 u79 u80 u81 u82 u83 u84 u85 u86 u87 u88 u89 u90 u91 u92 u93 u94 u95 u96 u97 u98 u99 u100 u101 u102 u103 u104 u105 u106 u107 u108 u109 u110 u111 u112 u113 u114 u115 u116 u117 u118 u119 u120 u121 u122 u123 u124 u125 u126 u127 u128 u129 u130 u131 u132 u133 u134 u135 u136 u137 u138 u139 u140 u141 u142 u143 u144 u145 u146 u147 u148 u149 u150 u151 u152 u153 u154 u155 u156 u157 u158 u159 u160 u161 u162 u163 u164 u165 u166 u167 u168 u169 u170 u171 u172 u173 u174 u175 u176 u177 u178 u179 u180 u181 u182 u183 u184 u185 u186 u187 u188 u189 u190 u191 u192 u193 u194 u195, (∃ r : Nat, 1 ≤ r ∧ r ≤ 8 ∧ u7 = Value.int IntKind.i64 ↑r ∧ Hid (OnK w a n c win L w')) ∧
          a' = ⟨#[ptV (Value.slice a n c) win, Value.int IntKind.i64 ↑j, Value.int IntKind.i64 nn, Value.pointer (some { block := w.heap.size, off := 0 }), undef, undef, u6, u7, u8, u9, u10, u11, u12, u13, u14, u15, u16, u17, u18, u19, u20, u21, u22, u23, u24, u25, u26, u27, u28, u29, u30, u31, u32, u33, u34, u35, u36, u37, u38, u39, u40, u41, u42, u43, u44, u45, u46, u47, u48, u49, u50, u51, u52, u53, u54, u55, u56, u57, u58, u59, u60, u61, u62, u63, u64, u65, u66, u67, u68, u69, u70, u71, u72, u73, u74, u75, u76, u77, u78, u79, u80, u81, u82, u83, u84, u85, u86, u87, u88, u89, u90, u91, u92, u93, u94, u95, u96, u97, u98, u99, u100, u101, u102, u103, u104, u105, u106, u107, u108, u109, u110, u111, u112, u113, u114, u115, u116, u117, u118, u119, u120, u121, u122, u123, u124, u125, u126, u127, u128, u129, u130, u131, u132, u133, u134, u135, u136, u137, u138, u139, u140, u141, u142, u143, u144, u145, u146, u147, u148, u149, u150, u151, u152, u153, u154, u155, u156, u157, u158, u159, u160, u161, u162, u163, u164, u165, u166, u167, u168, u169, u170, u171, u172, u173, u174, u175, u176, u177, u178, u179, u180, u181, u182, u183, u184, u185, u186, u187, u188, u189, u190, u191, u192, u193, u194, u195, u196], []⟩) ∧
        8 - (intOf (a'.tmps.getD 7 undef)).toNat < 8 - (intOf ((#[ptV (Value.slice a n c) win, Value.int IntKind.i64 ↑j, Value.int IntKind.i64 nn, Value.pointer (some { block := w.heap.size, off := 0 }), undef, undef, u6, Value.int IntKind.i64 (((5 : Nat) : Int)), u8, u9, u10, u11, u12, u13, u14, u15, u16, u17, u18, u19, u20, u21, u22, u23, u24, u25, u26, u27, u28, u29, u30, u31, u32, u33, u34, u35, u36, u37, u38, u39, u40, u41, u42, u43, u44, u45, u46, u47, u48, u49, u50, u51, u52, u53, u54, u55, u56, u57, u58, u59, u60, u61, u62, u63, u64, u65, u66, u67, u68, u69, u70, u71, u72, u73, u74, u75, u76, u77, u78, u79, u80, u81, u82, u83, u84, u85, u86, u87, u88, u89, u90, u91, u92, u93, u94, u95, u96, u97, u98, u99, u100, u101, u102, u103, u104, u105, u106, u107, u108, u109, u110, u111, u112, u113, u114, u115, u116, u117, u118, u119, u120, u121, u122, u123, u124, u125, u126, u127, u128, u129, u130, u131, u132, u133, u134, u135, u136, u137, u138, u139, u140, u141, u142, u143, u144, u145, u146, u147, u148, u149, u150, u151, u152, u153, u154, u155, u156, u157, u158, u159, u160, u161, u162, u163, u164, u165, u166, u167, u168, u169, u170, u171, u172, u173, u174, u175, u176, u177, u178, u179, u180, u181, u182, u183, u184, u185, u186, u187, u188, u189, u190, u191, u192, u193, u194, u195, u196] : Array Value).getD 7 undef)).toNat) Q0)
      ⟨#[ptV (Value.slice a n c) win, Value.int IntKind.i64 ↑j, Value.int IntKind.i64 nn, Value.pointer (some { block := w.heap.size, off := 0 }), undef, undef, u6, Value.int IntKind.i64 (((5 : Nat) : Int)), u8, u9, u10, u11, u12, u13, u14, u15, u16, u17, u18, u19, u20, u21, u22, u23, u24, u25, u26, u27, u28, u29, u30, u31, u32, u33, u34, u35, u36, u37, u38, u39, u40, u41, u42, u43, u44, u45, u46, u47, u48, u49, u50, u51, u52, u53, u54, u55, u56, u57, u58, u59, u60, u61, u62, u63, u64, u65, u66, u67, u68, u69, u70, u71, u72, u73, u74, u75, u76, u77, u78, u79, u80, u81, u82, u83, u84, u85, u86, u87, u88, u89, u90, u91, u92, u93, u94, u95, u96, u97, u98, u99, u100, u101, u102, u103, u104, u105, u106, u107, u108, u109, u110, u111, u112, u113, u114, u115, u116, u117, u118, u119, u120, u121, u122, u123, u124, u125, u126, u127, u128, u129, u130, u131, u132, u133, u134, u135, u136, u137, u138, u139, u140, u141, u142, u143, u144, u145, u146, u147, u148, u149, u150, u151, u152, u153, u154, u155, u156, u157, u158, u159, u160, u161, u162, u163, u164, u165, u166, u167, u168, u169, u170, u171, u172, u173, u174, u175, u176, u177, u178, u179, u180, u181, u182, u183, u184, u185, u186, u187, u188, u189, u190, u191, u192, u193, u194, u195, u196], []⟩ wr := by
  conv => arg 2; whnf
  go_wp2_with fail
  (with_reducible refine hO.out.mono ?_)
  rintro e w8 ⟨v, M, rfl, hOwn, hmap, hap, hb8⟩
  clear hO
  have hMn : M.length = n := by have := congrArg List.length hmap; simpa [hn.out] using this
  obtain ⟨g, cap, rfl, hcap, hg8⟩ := own_lit hOwn hMn hn1
  clear k0 k1
  have hb9 := kept_new w8 (.cells #[.slice (some ⟨g, 0, none⟩) n cap, .int .i64 win] 24)
  have hP9 := PtBox.new w8 (.slice (some ⟨g, 0, none⟩) n cap) win
  have hOwn9 := hOwn.later hb9
  have hgP := hOwn.1.lt g rfl
  have hP8 := hb8.size
  obtain ⟨⟨s2, u⟩, hx⟩ := sps_i (L := M) (i := 0) (by omega)
  have hsm : (L.map (·.1))[0]? = some s2 := by rw [← hmap]; exact map_fst hx
  obtain ⟨m2, hm2⟩ : ∃ m, s2.cs.length = m := ⟨_, rfl⟩
  have hM20 : ∀ y ∈ M, y.1.cs.length ≤ 20 := fun y hy => h20.out y.1 (by rw [← hmap]; exact List.mem_map.2 ⟨y, hy, rfl⟩)
  have hMq : OpsOk M := by
    intro y hy cp hcp
    have hys : y.1 ∈ L.map (·.1) := by rw [← hmap]; exact List.mem_map.2 ⟨y, hy, rfl⟩
    obtain ⟨z, hz, hz2⟩ := List.mem_map.1 hys
    exact hqo.out z hz cp (by rw [hz2]; exact hcp)
  have hb9' := kept_trans hb8 hb9
  have hr9 := hOwn9.1
  rw [hMn] at hr9
  obtain ⟨z0, z1, z2, z3, z4, z5, z6⟩ := row_step hr9 (by omega) hx
  simp only [Nat.zero_mul, Nat.zero_add] at z0 z1 z2 z3 z4 z5 z6
  have pf3 := row_f hr9 3
  have hLx : Hid (LxK wr w8.heap.size g n cap 0 m2 win M s2 u (w8.alloc (.cells #[.slice (some ⟨g, 0, none⟩) n cap, .int .i64 win] 24))) := ⟨hP9, hOwn9, hap, hMn, hx, hm2, hb9', by omega, hg8, hP8, h40, hM20, hMq⟩
  have p0 := hP9.c0
  have p1 := hP9.c1
  have pf0 := hP9.f 0
  have pf1 := hP9.f 1
  go_upto_region 9 with fail
  generalize hW9 : w8.alloc (.cells #[.slice (some ⟨g, 0, none⟩) n cap, .int .i64 win] 24) = W9 at *
  generalize hP2 : w8.heap.size = P2 at *
  replace hW9 := Lib.hid hW9
  replace hP2 := Lib.hid hP2
  have hgd := hLx.out.gd_num (s' := { s2 with max := 0 }) (f := 3) (k := 0) (spsCells_set3 hx _) rfl
  simp only [Nat.zero_mul, Nat.zero_add] at hgd
  rw [hmap] at hgd
  replace hgd := Lib.hid hgd
  have hn00 : (0 : Int) < n := by omega
  go_upto_region 25 with fail
  generalize W9.setCell ⟨g, 3, none⟩ (.int .i64 0) = W10 at *
  clear pf3
  clear z0 z1 z2 z3 z4 z5 z6 p0 p1 pf0 pf1
  have hIg := hgd.out
  obtain ⟨vg, hPg, hBg, ⟨ag, ng, cg, rfl⟩, hCg⟩ := hIg.call (one5 hMay.out hsm)
  have d0 := hPg.c0
  have d1 := hPg.c1
  replace hCg := Lib.hid hCg
  have hIk := Lib.hid (hIr.out.later hBg)
  clear hgd hIg hPg hBg hLx hW9 hP2 hOwn9 hOwn hr9 hmap hap hMn hx hsm hM20 hMq hb9 hb9' hP9 hP8 hgP hg8 hcap hm2 hb8
  go_wp2_with ((with_reducible refine hCg.out.mono ?_); rintro e w11 ⟨rfl, hb11⟩; have hI11 := Lib.hid (hIk.out.later hb11); have k0 := hI11.out.1.1.c0; have k1 := hI11.out.1.1.c1; clear hb11)
  exact ⟨⟨6, by omega, by omega, rfl, hI11.out⟩, by simp [intOf]⟩
set_option maxRecDepth 1000000 in
set_option maxHeartbeats 16000000 in
theorem oneR6 (L : List (Sp × Value)) (win nn : Int) (w : World) (wn : (Lit.int IntKind.i64 nn).wf = true) (n : Nat) (a : Option Addr) (c : Nat)
    (h40 : n ≤ 40) (hlen : 1 ≤ n ∧ n ≤ 6) (hn1 : 0 < n) (ht1 : 1 ≤ nn) (ht2 : nn ≤ 1000) (hS : Hid (Small (List.map (fun x => x.fst) L)))
    (h20 : Hid (∀ (s : Sp), s ∈ List.map (fun x => x.fst) L → s.cs.length ≤ 20)) (hqo : Hid (OpsOk L)) (hMay : Hid (MayP (List.map (fun x => x.fst) L) win)) (hn : Hid (L.length = n))
    (u6 u8 u9 u10 u11 u12 u13 u14 u15 u16 u17 u18 u19 u20 u21 u22 u23 u24 u25 u26 u27 u28 u29 u30 u31 u32 u33 u34 u35 u36 u37 u38 u39 u40 u41 u42 u43 u44 u45 u46 u47 u48 u49 u50 u51 u52 u53 u54 u55 u56 u57 u58 u59 u60 u61 u62 u63 u64 u65 u66 u67 u68 u69 u70 u71 u72 u73 u74 u75 u76 u77 u78 u79 u80 u81 u82 u83 u84 u85 u86 u87 u88 u89 u90 u91 u92 u93 u94 u95 u96 u97 u98 u99 u100 u101 u102 u103 u104 u105 u106 u107 u108 u109 u110 u111 u112 u113 u114 u115 u116 u117 u118 u119 u120 u121 u122 u123 u124 u125 u126 u127 u128 u129 u130 u131 u132 u133 u134 u135 u136 u137 u138 u139 u140 u141 u142 u143 u144 u145 u146 u147 u148 u149 u150 u151 u152 u153 u154 u155 u156 u157 u158 u159 u160 u161 u162 u163 u164 u165 u166 u167 u168 u169 u170 u171 u172 u173 u174 u175 u176 u177 u178 u179 u180 u181 u182 u183 u184 u185 u186 u187 u188 u189 u190 u191 u192 u193 u194 u195 u196 : Value) (j : Nat) (hj : j < n) (hjn : (j : Int) < (n : Int)) (Q0 : Exit → Act → World → Prop) (wr : World)
    (hIr : Hid (OnK w a n c win L wr))
    (k0 : wr.cell? { block := w.heap.size, off := 0 } = some (Value.slice a n c)) (k1 : wr.cell? { block := w.heap.size, off := 1 } = some (Value.int IntKind.i64 win))
    (hO : Hid (Calls Try.prog 20 #[ptV (Value.slice a n c) win] wr fun e w' => ∃ v' L', e = Ending.returned (ptV v' win) ∧ OwnSps w' wr.heap.size v' L' ∧ List.map (fun x => x.fst) L' = List.map (fun x => x.fst) L ∧ Apart L' ∧ Below wr.heap.size wr w')) :
    Code.wp Try.prog body5
      (Exit.then (fun a' w' => (∃ u6 u7 u8 u9 u10 u11 u12 u13 u43 u44 u45 u46 u47 u48 u49 u50 u51 u52 u53 u54 u55 u56 u57 u58 u59 u60 u61 u62 u63 u64 u65 u66 u67 u68 u69 u70 u71 u72 u73 u74 u75 u76 u77 u78 u79 u80 u81 u82 u83 u84 u85 u86 u87 u88 u89 u90 u91 u92 u93 u94 u95 u96 u97 u98 u99 u100 u101 u102 u103 u104 u105 u106 u107 u108 u109 u110 u111 u112 u113 u114 u115 u116 u117 u118 u119 u120 u121 u122 u123 u124 u125 u126 u127 u128 u129 u130 u131 u132 u133 u134 u135 u136 u137 u138 u139 u140 u141 u142 u143 u144 u145 u146 u147 u148 u149 u150 u151 u152 u153 u154 u155 u156 u157 u158 u159 u160 u161 u162 u163 u164 u165 u166 u167 u168 u169 u170 u171 u172 u173 u174 u175 u176 u177 u178 u179 u180 u181 u182 u183 u184 u185 u186 u187 u188 u189 u190 u191 u192 u193 u194 u195, (∃ r : Nat, 1 ≤ r ∧ r ≤ 8 ∧ u7 = Value.int IntKind.i64 ↑r ∧ Hid (OnK w a n c win L w')) ∧
          a' = ⟨#[ptV (Value.slice a n c) win, Value.int IntKind.i64 ↑j, Value.int IntKind.i64 nn, Value.pointer (some { block := w.heap.size, off := 0 }), undef, undef, u6, u7, u8, u9, u10, u11, u12, u13, u14, u15, u16, u17, u18, u19, u20, u21, u22, u23, u24, u25, u26, u27, u28, u29, u30, u31, u32, u33, u34, u35, u36, u37, u38, u39, u40, u41, u42, u43, u44, u45, u46, u47, u48, u49, u50, u51, u52, u53, u54, u55, u56, u57, u58, u59, u60, u61, u62, u63, u64, u65, u66, u67, u68, u69, u70, u71, u72, u73, u74, u75, u76, u77, u78, u79, u80, u81, u82, u83, u84, u85, u86, u87, u88, u89, u90, u91, u92, u93, u94, u95, u96, u97, u98, u99, u100, u101, u102, u103, u104, u105, u106, u107, u108, u109, u110, u111, u112, u113, u114, u115, u116, u117, u118, u119, u120, u121, u122, u123, u124, u125, u126, u127, u128, u129, u130, u131, u132, u133, u134, u135, u136, u137, u138, u139, u140, u141, u142, u143, u144, u145, u146, u147, u148, u149, u150, u151, u152, u153, u154, u155, u156, u157, u158, u159, u160, u161, u162, u163, u164, u165, u166, u167, u168, u169, u170, u171, u172, u173, u174, u175, u176, u177, u178, u179, u180, u181, u182, u183, u184, u185, u186, u187, u188, u189, u190, u191, u192, u193, u194, u195, u196], []⟩) ∧
        8 - (intOf (a'.tmps.getD 7 undef)).toNat < 8 - (intOf ((#[ptV (Value.slice a n c) win, Value.int IntKind.i64 ↑j, Value.int IntKind.i64 nn, Value.pointer (some { block := w.heap.size, off := 0 }), undef, undef, u6, Value.int IntKind.i64 (((6 : Nat) : Int)), u8, u9, u10, u11, u12, u13, u14, u15, u16, u17, u18, u19, u20, u21, u22, u23, u24, u25, u26, u27, u28, u29, u30, u31, u32, u33, u34, u35, u36, u37, u38, u39, u40, u41, u42, u43, u44, u45, u46, u47, u48, u49, u50, u51, u52, u53, u54, u55, u56, u57, u58, u59, u60, u61, u62, u63, u64, u65, u66, u67, u68, u69, u70, u71, u72, u73, u74, u75, u76, u77, u78, u79, u80, u81, u82, u83, u84, u85, u86, u87, u88, u89, u90, u91, u92, u93, u94, u95, u96, u97, u98, u99, u100, u101, u102, u103, u104, u105, u106, u107, u108, u109, u110, u111, u112, u113, u114, u115, u116, u117, u118, u119, u120, u121, u122, u123, u124, u125, u126, u127, u128, u129, u130, u131, u132, u133, u134, u135, u136, u137, u138, u139, u140, u141, u142, u143, u144, u145, u146, u147, u148, u149, u150, u151, u152, u153, u154, u155, u156, u157, u158, u159, u160, u161, u162, u163, u164, u165, u166, u167, u168, u169, u170, u171, u172, u173, u174, u175, u176, u177, u178, u179, u180, u181, u182, u183, u184, u185, u186, u187, u188, u189, u190, u191, u192, u193, u194, u195, u196] : Array Value).getD 7 undef)).toNat) Q0)
      ⟨#[ptV (Value.slice a n c) win, Value.int IntKind.i64 ↑j, Value.int IntKind.i64 nn, Value.pointer (some { block := w.heap.size, off := 0 }), undef, undef, u6, Value.int IntKind.i64 (((6 : Nat) : Int)), u8, u9, u10, u11, u12, u13, u14, u15, u16, u17, u18, u19, u20, u21, u22, u23, u24, u25, u26, u27, u28, u29, u30, u31, u32, u33, u34, u35, u36, u37, u38, u39, u40, u41, u42, u43, u44, u45, u46, u47, u48, u49, u50, u51, u52, u53, u54, u55, u56, u57, u58, u59, u60, u61, u62, u63, u64, u65, u66, u67, u68, u69, u70, u71, u72, u73, u74, u75, u76, u77, u78, u79, u80, u81, u82, u83, u84, u85, u86, u87, u88, u89, u90, u91, u92, u93, u94, u95, u96, u97, u98, u99, u100, u101, u102, u103, u104, u105, u106, u107, u108, u109, u110, u111, u112, u113, u114, u115, u116, u117, u118, u119, u120, u121, u122, u123, u124, u125, u126, u127, u128, u129, u130, u131, u132, u133, u134, u135, u136, u137, u138, u139, u140, u141, u142, u143, u144, u145, u146, u147, u148, u149, u150, u151, u152, u153, u154, u155, u156, u157, u158, u159, u160, u161, u162, u163, u164, u165, u166, u167, u168, u169, u170, u171, u172, u173, u174, u175, u176, u177, u178, u179, u180, u181, u182, u183, u184, u185, u186, u187, u188, u189, u190, u191, u192, u193, u194, u195, u196], []⟩ wr := by
  conv => arg 2; whnf
  go_wp2_with fail
  (with_reducible refine hO.out.mono ?_)
  rintro e w8 ⟨v, M, rfl, hOwn, hmap, hap, hb8⟩
  clear hO
  have hMn : M.length = n := by have := congrArg List.length hmap; simpa [hn.out] using this
  obtain ⟨g, cap, rfl, hcap, hg8⟩ := own_lit hOwn hMn hn1
  clear k0 k1
  have hb9 := kept_new w8 (.cells #[.slice (some ⟨g, 0, none⟩) n cap, .int .i64 win] 24)
  have hP9 := PtBox.new w8 (.slice (some ⟨g, 0, none⟩) n cap) win
  have hOwn9 := hOwn.later hb9
  have hgP := hOwn.1.lt g rfl
  have hP8 := hb8.size
  obtain ⟨⟨s2, u⟩, hx⟩ := sps_i (L := M) (i := j) (by omega)
  have hsm : (L.map (·.1))[j]? = some s2 := by rw [← hmap]; exact map_fst hx
  obtain ⟨m2, hm2⟩ : ∃ m, s2.cs.length = m := ⟨_, rfl⟩
  have hM20 : ∀ y ∈ M, y.1.cs.length ≤ 20 := fun y hy => h20.out y.1 (by rw [← hmap]; exact List.mem_map.2 ⟨y, hy, rfl⟩)
  have hMq : OpsOk M := by
    intro y hy cp hcp
    have hys : y.1 ∈ L.map (·.1) := by rw [← hmap]; exact List.mem_map.2 ⟨y, hy, rfl⟩
    obtain ⟨z, hz, hz2⟩ := List.mem_map.1 hys
    exact hqo.out z hz cp (by rw [hz2]; exact hcp)
  have hb9' := kept_trans hb8 hb9
  have hr9 := hOwn9.1
  rw [hMn] at hr9
  obtain ⟨z0, z1, z2, z3, z4, z5, z6⟩ := row_step hr9 (by omega) hx
  have hLx : Hid (LxK wr w8.heap.size g n cap j m2 win M s2 u (w8.alloc (.cells #[.slice (some ⟨g, 0, none⟩) n cap, .int .i64 win] 24))) := ⟨hP9, hOwn9, hap, hMn, hx, hm2, hb9', by omega, hg8, hP8, h40, hM20, hMq⟩
  have p0 := hP9.c0
  have p1 := hP9.c1
  have pf0 := hP9.f 0
  have pf1 := hP9.f 1
  go_upto_region 9 with fail
  generalize hW9 : w8.alloc (.cells #[.slice (some ⟨g, 0, none⟩) n cap, .int .i64 win] 24) = W9 at *
  generalize hP2 : w8.heap.size = P2 at *
  replace hW9 := Lib.hid hW9
  replace hP2 := Lib.hid hP2
  obtain ⟨j0, hj0, hy0, hy1, hy2⟩ := info_parts Try.info35
  replace hj0 := Lib.hid hj0
  have hap0 : ApK wr P2 win (.slice (some ⟨g, 0, none⟩) n cap) M W9 := ⟨hP9, hOwn9, hb9', hP8⟩
  have hckM := Lib.hid hLx.out.all_ck
  replace hmap := Lib.hid hmap
  replace hMn := Lib.hid hMn
  clear hLx hOwn9 hOwn hr9 hap hx hsm hM20 hMq hb9 hb9' hP9 hP8 hgP hg8 hcap hm2 hb8 z0 z1 z2 z3 z4 z5 z6 p0 p1 pf0 pf1 hW9
  go_wp2_with fail
  obtain ⟨wo, rfl⟩ : ∃ W, W = wr := ⟨_, rfl⟩
  go_loopw [93] (fun _ wt => ∃ (k : Nat) (v : Value), n + k ≤ 6 ∧ Hid (ApK wo P2 win v (M ++ List.replicate k (sThree, nilS)) wt)) (fun _ wt => 6 - lenAt P2 wt)
  case atStart => exact ⟨0, _, by omega, by show ApK _ _ _ _ (M ++ []) _; rw [List.append_nil]; exact hap0⟩
  case round =>
    clear hap0
    obtain ⟨k, v, hk6, hK⟩ := hrel
    have hNl : (M ++ List.replicate k (sThree, nilS)).length = n + k := by rw [List.length_append, List.length_replicate, hMn.out]
    obtain ⟨av, cv, rfl⟩ := hK.out.2.1.sps.lit hNl
    have d0 := hK.out.1.c0
    have d1 := hK.out.1.c1
    obtain ⟨q, hq⟩ : ∃ q, n + k = q := ⟨_, rfl⟩
    have hlen : Hid (lenAt P2 wr = q) := by show _ = _; unfold lenAt; rw [d0, hq]
    rw [hq] at d0 hK hNl
    by_cases hlt6 : q < 6
    · have hlti6 : (q : Int) < 6 := by omega
      have hrow := hK.out.2.1.1
      rw [hNl] at hrow
      have hA := fun (W2 : World) (v' : Value) (tmp : Obj) => ApK.app (W2 := W2) (v' := v') (tmp := tmp) (z := sThree) hK.out rfl
      rw [hNl] at hA
      replace hA := Lib.hid hA
      have hb63 : q + 1 ≤ maxLen := by unfold maxLen; omega
      have hb64 : (q + 1) * 64 ≤ 140737488355328 := by omega
      have hBs := hK.out.2.2.1.size
      have hnew := Lib.hid (cells_newA wr [.bool false, .int .i64 0, .int .i64 1, .int .i64 3, .bool false, nilS] 35)
      replace hrow := Lib.hid hrow
      replace hNl := Lib.hid hNl
      replace hq := Lib.hid hq
      go_wp2_with (first
        | (at_builtin; refine wpList_append_cells rfl (.tmp 95) (.tmp 97) 22 rfl wo.heap.size 35 j0 _ 6 64 Try.underlying22 hj0.out hy0 hy1 hy2 rfl (by decide) _ q (spsCells (M ++ List.replicate k (sThree, nilS))) rfl (World.ownsRow.alloc hrow.out _) (some ⟨wr.heap.size, 0, none⟩) 1 1 [.bool false, .int .i64 0, .int .i64 1, .int .i64 3, .bool false, nilS] rfl rfl hnew.out (by simp [Value.oneCell']) hb63 hb64 (by rw [World.size_alloc]; exact Nat.le_succ_of_le hBs) ?_; intro v' w10 hown' hgrow; obtain ⟨a6, c6, rfl, -⟩ := cells_of_row hown'; obtain ⟨hP10, hK10⟩ := hA.out w10 _ _ hgrow hown'; have y0 := hP10.c0; have yf := hP10.f 0; replace hK10 := Lib.hid hK10; replace hP10 := Lib.hid hP10; clear hown' hgrow)
        | fail)
      have hl10 : lenAt P2 (w10.setCell ⟨P2, 0, none⟩ (.slice a6 (q + 1) c6)) = q + 1 := by unfold lenAt; rw [hK10.out.1.c0]
      have hrep : M ++ List.replicate k (sThree, nilS) ++ [(sThree, nilS)] = M ++ List.replicate (k + 1) (sThree, nilS) := by rw [List.append_assoc, List.replicate_succ']
      rw [hrep] at hK10
      go_roundw
      case rel => exact ⟨k + 1, _, by have := hq.out; omega, hK10⟩
      case measure => rw [hl10, hlen.out]; omega
    · obtain rfl : q = 6 := by omega
      have hlti6 : ¬ (6 : Int) < 6 := by omega
      have hckA := ck_app (zs := List.replicate k (sThree, nilS)) hckM.out (by simp; omega) (fun z hz => by rw [(List.mem_replicate.1 hz).2]; rfl) (by rw [hMn.out]; omega)
      have hgd := hK.out.gd hckA
      have hmapA : (M ++ List.replicate k (sThree, nilS)).map (·.1) = L.map (·.1) ++ List.replicate k sThree := by rw [List.map_append, hmap.out, List.map_replicate]
      rw [hmapA] at hgd
      clear hmapA hckA
      by_cases hn5 : 5 ≤ n
      · have hn5i : (5 : Int) ≤ n := by omega
        obtain ⟨q1, q2, q3, hqT⟩ : ∃ q1 q2 q3, checkT (L.map (·.1) ++ List.replicate k sThree) win = (q1, q2, q3) := ⟨_, _, _, rfl⟩
        obtain ⟨vg, hPg, hBg, ⟨ag, ng, cg, rfl⟩, hCg⟩ := hgd.call hqT
        have e0 := hPg.c0
        have e1 := hPg.c1
        rw [d0] at e0
        cases e0
        replace hCg := Lib.hid hCg
        have hIk := Lib.hid (hIr.out.later hBg)
        clear hgd hPg hBg hK hNl hq hqT hlen hn5 e1
        go_wp2_with ((with_reducible refine hCg.out.mono ?_); rintro e w11 ⟨rfl, hb11⟩; have hI11 := Lib.hid (hIk.out.later hb11); have k0 := hI11.out.1.1.c0; have k1 := hI11.out.1.1.c1; clear hb11)
        exact ⟨⟨7, by omega, by omega, rfl, hI11.out⟩, by simp [intOf]⟩
      · have hn5i : ¬ (5 : Int) ≤ n := by omega
        obtain ⟨vg, hPg, hBg, ⟨ag, ng, cg, rfl⟩, hCg⟩ := hgd.call (one6 hMay.out k (by rw [List.length_map, hn.out]; omega) (by omega))
        have e0 := hPg.c0
        have e1 := hPg.c1
        rw [d0] at e0
        cases e0
        replace hCg := Lib.hid hCg
        have hIk := Lib.hid (hIr.out.later hBg)
        clear hgd hPg hBg hK hNl hq hlen hn5 e1
        go_wp2_with ((with_reducible refine hCg.out.mono ?_); rintro e w11 ⟨rfl, hb11⟩; have hI11 := Lib.hid (hIk.out.later hb11); have k0 := hI11.out.1.1.c0; have k1 := hI11.out.1.1.c1; clear hb11)
        exact ⟨⟨7, by omega, by omega, rfl, hI11.out⟩, by simp [intOf]⟩
set_option maxRecDepth 1000000 in
set_option maxHeartbeats 16000000 in
theorem oneR7 (L : List (Sp × Value)) (win nn : Int) (w : World) (wn : (Lit.int IntKind.i64 nn).wf = true) (n : Nat) (a : Option Addr) (c : Nat)
    (h40 : n ≤ 40) (hlen : 1 ≤ n ∧ n ≤ 6) (hn1 : 0 < n) (ht1 : 1 ≤ nn) (ht2 : nn ≤ 1000) (hS : Hid (Small (List.map (fun x => x.fst) L)))
    (h20 : Hid (∀ (s : Sp), s ∈ List.map (fun x => x.fst) L → s.cs.length ≤ 20)) (hqo : Hid (OpsOk L)) (hMay : Hid (MayP (List.map (fun x => x.fst) L) win)) (hn : Hid (L.length = n))
    (u6 u8 u9 u10 u11 u12 u13 u14 u15 u16 u17 u18 u19 u20 u21 u22 u23 u24 u25 u26 u27 u28 u29 u30 u31 u32 u33 u34 u35 u36 u37 u38 u39 u40 u41 u42 u43 u44 u45 u46 u47 u48 u49 u50 u51 u52 u53 u54 u55 u56 u57 u58 u59 u60 u61 u62 u63 u64 u65 u66 u67 u68 u69 u70 u71 u72 u73 u74 u75 u76 u77 u78 u79 u80 u81 u82 u83 u84 u85 u86 u87 u88 u89 u90 u91 u92 u93 u94 u95 u96 u97 u98 u99 u100 u101 u102 u103 u104 u105 u106 u107 u108 u109 u110 u111 u112 u113 u114 u115 u116 u117 u118 u119 u120 u121 u122 u123 u124 u125 u126 u127 u128 u129 u130 u131 u132 u133 u134 u135 u136 u137 u138 u139 u140 u141 u142 u143 u144 u145 u146 u147 u148 u149 u150 u151 u152 u153 u154 u155 u156 u157 u158 u159 u160 u161 u162 u163 u164 u165 u166 u167 u168 u169 u170 u171 u172 u173 u174 u175 u176 u177 u178 u179 u180 u181 u182 u183 u184 u185 u186 u187 u188 u189 u190 u191 u192 u193 u194 u195 u196 : Value) (j : Nat) (hj : j < n) (hjn : (j : Int) < (n : Int)) (Q0 : Exit → Act → World → Prop) (wr : World)
    (hIr : Hid (OnK w a n c win L wr))
    (k0 : wr.cell? { block := w.heap.size, off := 0 } = some (Value.slice a n c)) (k1 : wr.cell? { block := w.heap.size, off := 1 } = some (Value.int IntKind.i64 win))
    (hO : Hid (Calls Try.prog 20 #[ptV (Value.slice a n c) win] wr fun e w' => ∃ v' L', e = Ending.returned (ptV v' win) ∧ OwnSps w' wr.heap.size v' L' ∧ List.map (fun x => x.fst) L' = List.map (fun x => x.fst) L ∧ Apart L' ∧ Below wr.heap.size wr w')) :
    Code.wp Try.prog body5
      (Exit.then (fun a' w' => (∃ u6 u7 u8 u9 u10 u11 u12 u13 u43 u44 u45 u46 u47 u48 u49 u50 u51 u52 u53 u54 u55 u56 u57 u58 u59 u60 u61 u62 u63 u64 u65 u66 u67 u68 u69 u70 u71 u72 u73 u74 u75 u76 u77 u78 u79 u80 u81 u82 u83 u84 u85 u86 u87 u88 u89 u90 u91 u92 u93 u94 u95 u96 u97 u98 u99 u100 u101 u102 u103 u104 u105 u106 u107 u108 u109 u110 u111 u112 u113 u114 u115 u116 u117 u118 u119 u120 u121 u122 u123 u124 u125 u126 u127 u128 u129 u130 u131 u132 u133 u134 u135 u136 u137 u138 u139 u140 u141 u142 u143 u144 u145 u146 u147 u148 u149 u150 u151 u152 u153 u154 u155 u156 u157 u158 u159 u160 u161 u162 u163 u164 u165 u166 u167 u168 u169 u170 u171 u172 u173 u174 u175 u176 u177 u178 u179 u180 u181 u182 u183 u184 u185 u186 u187 u188 u189 u190 u191 u192 u193 u194 u195, (∃ r : Nat, 1 ≤ r ∧ r ≤ 8 ∧ u7 = Value.int IntKind.i64 ↑r ∧ Hid (OnK w a n c win L w')) ∧
          a' = ⟨#[ptV (Value.slice a n c) win, Value.int IntKind.i64 ↑j, Value.int IntKind.i64 nn, Value.pointer (some { block := w.heap.size, off := 0 }), undef, undef, u6, u7, u8, u9, u10, u11, u12, u13, u14, u15, u16, u17, u18, u19, u20, u21, u22, u23, u24, u25, u26, u27, u28, u29, u30, u31, u32, u33, u34, u35, u36, u37, u38, u39, u40, u41, u42, u43, u44, u45, u46, u47, u48, u49, u50, u51, u52, u53, u54, u55, u56, u57, u58, u59, u60, u61, u62, u63, u64, u65, u66, u67, u68, u69, u70, u71, u72, u73, u74, u75, u76, u77, u78, u79, u80, u81, u82, u83, u84, u85, u86, u87, u88, u89, u90, u91, u92, u93, u94, u95, u96, u97, u98, u99, u100, u101, u102, u103, u104, u105, u106, u107, u108, u109, u110, u111, u112, u113, u114, u115, u116, u117, u118, u119, u120, u121, u122, u123, u124, u125, u126, u127, u128, u129, u130, u131, u132, u133, u134, u135, u136, u137, u138, u139, u140, u141, u142, u143, u144, u145, u146, u147, u148, u149, u150, u151, u152, u153, u154, u155, u156, u157, u158, u159, u160, u161, u162, u163, u164, u165, u166, u167, u168, u169, u170, u171, u172, u173, u174, u175, u176, u177, u178, u179, u180, u181, u182, u183, u184, u185, u186, u187, u188, u189, u190, u191, u192, u193, u194, u195, u196], []⟩) ∧
        8 - (intOf (a'.tmps.getD 7 undef)).toNat < 8 - (intOf ((#[ptV (Value.slice a n c) win, Value.int IntKind.i64 ↑j, Value.int IntKind.i64 nn, Value.pointer (some { block := w.heap.size, off := 0 }), undef, undef, u6, Value.int IntKind.i64 (((7 : Nat) : Int)), u8, u9, u10, u11, u12, u13, u14, u15, u16, u17, u18, u19, u20, u21, u22, u23, u24, u25, u26, u27, u28, u29, u30, u31, u32, u33, u34, u35, u36, u37, u38, u39, u40, u41, u42, u43, u44, u45, u46, u47, u48, u49, u50, u51, u52, u53, u54, u55, u56, u57, u58, u59, u60, u61, u62, u63, u64, u65, u66, u67, u68, u69, u70, u71, u72, u73, u74, u75, u76, u77, u78, u79, u80, u81, u82, u83, u84, u85, u86, u87, u88, u89, u90, u91, u92, u93, u94, u95, u96, u97, u98, u99, u100, u101, u102, u103, u104, u105, u106, u107, u108, u109, u110, u111, u112, u113, u114, u115, u116, u117, u118, u119, u120, u121, u122, u123, u124, u125, u126, u127, u128, u129, u130, u131, u132, u133, u134, u135, u136, u137, u138, u139, u140, u141, u142, u143, u144, u145, u146, u147, u148, u149, u150, u151, u152, u153, u154, u155, u156, u157, u158, u159, u160, u161, u162, u163, u164, u165, u166, u167, u168, u169, u170, u171, u172, u173, u174, u175, u176, u177, u178, u179, u180, u181, u182, u183, u184, u185, u186, u187, u188, u189, u190, u191, u192, u193, u194, u195, u196] : Array Value).getD 7 undef)).toNat) Q0)
      ⟨#[ptV (Value.slice a n c) win, Value.int IntKind.i64 ↑j, Value.int IntKind.i64 nn, Value.pointer (some { block := w.heap.size, off := 0 }), undef, undef, u6, Value.int IntKind.i64 (((7 : Nat) : Int)), u8, u9, u10, u11, u12, u13, u14, u15, u16, u17, u18, u19, u20, u21, u22, u23, u24, u25, u26, u27, u28, u29, u30, u31, u32, u33, u34, u35, u36, u37, u38, u39, u40, u41, u42, u43, u44, u45, u46, u47, u48, u49, u50, u51, u52, u53, u54, u55, u56, u57, u58, u59, u60, u61, u62, u63, u64, u65, u66, u67, u68, u69, u70, u71, u72, u73, u74, u75, u76, u77, u78, u79, u80, u81, u82, u83, u84, u85, u86, u87, u88, u89, u90, u91, u92, u93, u94, u95, u96, u97, u98, u99, u100, u101, u102, u103, u104, u105, u106, u107, u108, u109, u110, u111, u112, u113, u114, u115, u116, u117, u118, u119, u120, u121, u122, u123, u124, u125, u126, u127, u128, u129, u130, u131, u132, u133, u134, u135, u136, u137, u138, u139, u140, u141, u142, u143, u144, u145, u146, u147, u148, u149, u150, u151, u152, u153, u154, u155, u156, u157, u158, u159, u160, u161, u162, u163, u164, u165, u166, u167, u168, u169, u170, u171, u172, u173, u174, u175, u176, u177, u178, u179, u180, u181, u182, u183, u184, u185, u186, u187, u188, u189, u190, u191, u192, u193, u194, u195, u196], []⟩ wr := by
  conv => arg 2; whnf
  go_wp2_with fail
  (with_reducible refine hO.out.mono ?_)
  rintro e w8 ⟨v, M, rfl, hOwn, hmap, hap, hb8⟩
  clear hO
  have hMn : M.length = n := by have := congrArg List.length hmap; simpa [hn.out] using this
  obtain ⟨g, cap, rfl, hcap, hg8⟩ := own_lit hOwn hMn hn1
  clear k0 k1
  have hb9 := kept_new w8 (.cells #[.slice (some ⟨g, 0, none⟩) n cap, .int .i64 win] 24)
  have hP9 := PtBox.new w8 (.slice (some ⟨g, 0, none⟩) n cap) win
  have hOwn9 := hOwn.later hb9
  have hgP := hOwn.1.lt g rfl
  have hP8 := hb8.size
  obtain ⟨⟨s2, u⟩, hx⟩ := sps_i (L := M) (i := j) (by omega)
  have hsm : (L.map (·.1))[j]? = some s2 := by rw [← hmap]; exact map_fst hx
  obtain ⟨m2, hm2⟩ : ∃ m, s2.cs.length = m := ⟨_, rfl⟩
  have hM20 : ∀ y ∈ M, y.1.cs.length ≤ 20 := fun y hy => h20.out y.1 (by rw [← hmap]; exact List.mem_map.2 ⟨y, hy, rfl⟩)
  have hMq : OpsOk M := by
    intro y hy cp hcp
    have hys : y.1 ∈ L.map (·.1) := by rw [← hmap]; exact List.mem_map.2 ⟨y, hy, rfl⟩
    obtain ⟨z, hz, hz2⟩ := List.mem_map.1 hys
    exact hqo.out z hz cp (by rw [hz2]; exact hcp)
  have hb9' := kept_trans hb8 hb9
  have hr9 := hOwn9.1
  rw [hMn] at hr9
  obtain ⟨z0, z1, z2, z3, z4, z5, z6⟩ := row_step hr9 (by omega) hx
  have hLx : Hid (LxK wr w8.heap.size g n cap j m2 win M s2 u (w8.alloc (.cells #[.slice (some ⟨g, 0, none⟩) n cap, .int .i64 win] 24))) := ⟨hP9, hOwn9, hap, hMn, hx, hm2, hb9', by omega, hg8, hP8, h40, hM20, hMq⟩
  have p0 := hP9.c0
  have p1 := hP9.c1
  have pf0 := hP9.f 0
  have pf1 := hP9.f 1
  go_upto_region 9 with fail
  generalize hW9 : w8.alloc (.cells #[.slice (some ⟨g, 0, none⟩) n cap, .int .i64 win] 24) = W9 at *
  generalize hP2 : w8.heap.size = P2 at *
  replace hW9 := Lib.hid hW9
  replace hP2 := Lib.hid hP2
  have hou9 := hOwn9.2 _ (List.mem_of_getElem? hx)
  unfold OwnCps at hou9
  dsimp only at hou9
  rw [hm2] at hou9
  have hm20 : m2 ≤ 20 := by rw [← hm2]; exact hM20 _ (List.mem_of_getElem? hx)
  obtain ⟨i0, hi0, hz0, hz1, hz2⟩ := info_parts Try.info41
  replace hi0 := Lib.hid hi0
  have hb63 : m2 + 1 ≤ maxLen := by unfold maxLen; omega
  have hb72 : (m2 + 1) * 72 ≤ 140737488355328 := by omega
  have hBs := hb9'.size
  have hA := Lib.hid (fun W2 v tmp => hLx.out.gd_add (W2 := W2) (v := v) (tmp := tmp) (x := cNext j) (by show (0 : Int) ≤ 3; decide))
  rw [hmap] at hA
  have hnew := Lib.hid (cells_newA W9 (cpsCells [cNext j]) 41)
  go_upto_region 25 with (first
    | (at_builtin; refine wpList_append_cells rfl (.tmp 106) (.tmp 111) 33 rfl wr.heap.size 41 i0 _ 9 72 Try.underlying33 hi0.out hz0 hz1 hz2 rfl (by decide) u m2 (cpsCells s2.cs) rfl (World.ownsRow.alloc hou9 _) (some ⟨W9.heap.size, 0, none⟩) 1 1 (cpsCells [cNext j]) rfl rfl hnew.out cps_one hb63 hb72 (by rw [World.size_alloc]; exact Nat.le_succ_of_le hBs) ?_; intro v' w10 hown' hgrow; obtain ⟨a6, c6, rfl, -⟩ := cells_of_row hown'; obtain ⟨hgd, y5, y6⟩ := hA.out w10 _ _ hgrow hown'; replace hgd := Lib.hid hgd; clear hown' hgrow)
    | fail)
  generalize w10.setCell ⟨g, j * 6 + 5, none⟩ (.slice a6 (m2 + 1) c6) = W10 at *
  clear y5 y6 hou9 hnew hA hBs hi0 hz0 hz1 hz2
  clear z0 z1 z2 z3 z4 z5 z6 p0 p1 pf0 pf1
  have hIg := hgd.out
  obtain ⟨vg, hPg, hBg, ⟨ag, ng, cg, rfl⟩, hCg⟩ := hIg.call (one7 hMay.out hsm)
  have d0 := hPg.c0
  have d1 := hPg.c1
  replace hCg := Lib.hid hCg
  have hIk := Lib.hid (hIr.out.later hBg)
  clear hgd hIg hPg hBg hLx hW9 hP2 hOwn9 hOwn hr9 hmap hap hMn hx hsm hM20 hMq hb9 hb9' hP9 hP8 hgP hg8 hcap hm2 hb8
  go_wp2_with ((with_reducible refine hCg.out.mono ?_); rintro e w11 ⟨rfl, hb11⟩; have hI11 := Lib.hid (hIk.out.later hb11); have k0 := hI11.out.1.1.c0; have k1 := hI11.out.1.1.c1; clear hb11)
  exact ⟨⟨8, by omega, by omega, rfl, hI11.out⟩, by simp [intOf]⟩
set_option maxRecDepth 100000 in
set_option maxHeartbeats 16000000 in
theorem oneWalk (hwk : WakesC) (v : Value) (L : List (Sp × Value)) (win at_ nn : Int) (w : World) (h : SpsL w v L) (hl : L.length ≤ maxLen ∧ Roomy v) (hq : ∀ x ∈ L, InSp w x) (wa : (Lit.int .i64 at_).wf = true) (wn : (Lit.int .i64 nn).wf = true) :
    Calls Try.prog 5 #[ptV v win, .int .i64 at_, .int .i64 nn] w fun e w' => e = .returned (.bool true) ∧ Below w.heap.size w w' := by
  have hb := kept_new w (.cells #[v, .int .i64 win] 24)
  have hG := great_W win _ hl.1 (h.later hb)
  have hW := Lib.hid hwk
  obtain ⟨n, hn⟩ : ∃ n, L.length = n := ⟨_, rfl⟩
  obtain ⟨a, c, rfl⟩ := h.lit hn
  have hp : OnK w a n c win L (w.alloc (.cells #[.slice a n c, .int .i64 win] 24)) := ⟨⟨PtBox.new w _ _, hn, h.later hb⟩, hb⟩
  have c0 := hp.1.1.c0
  have c1 := hp.1.1.c1
  obtain ⟨G, hg⟩ : ∃ G, great (L.map (·.1)) = G := ⟨_, rfl⟩
  rw [hg] at hG
  cases G with
  | true =>
    replace hG := Lib.hid hG
    replace hb := Lib.hid hb
    clear hp h hl hn hg hwk hq
    go_enter Try.func5, Try.ntmps5
    go_wp2_with (first
      | ((with_reducible refine hG.out.mono ?_); rintro e w2 ⟨rfl, hb2⟩)
      | ((with_reducible refine (hW.out _).mono ?_); rintro e w3 ⟨rfl, hb3⟩))
    go_ret
    exact ⟨rfl, kept_trans hb.out (kept_trans hb2 hb3)⟩
  | false =>
    have hok := ck_of hg hq
    obtain ⟨hS, h40, h20⟩ := Small.of_great hg
    rw [List.length_map, hn] at h40
    have hM0 := fun W (hW : OnK w a n c win L W) => may_V win hok W hW.1.2.2
    replace hG := Lib.hid hG
    have hpp := Lib.hid hp
    have hqo : OpsOk L := hok.2.2
    clear hg h hl hwk hq hb hp
    cases hm : mayB (L.map (·.1)) win with
    | false =>
      rw [hm] at hM0
      replace hM0 := Lib.hid hM0
      clear hn hm hok hS h20 hqo
      go_enter Try.func5, Try.ntmps5
      go_wp2_with (first
        | ((with_reducible refine hG.out.mono ?_); rintro e X ⟨rfl, hbx⟩; replace hpp := Lib.hid (hpp.out.later hbx); have c0 := hpp.out.1.1.c0; have c1 := hpp.out.1.1.c1)
        | ((with_reducible refine (hM0.out _ hpp.out).mono ?_); rintro e X ⟨rfl, hbx⟩; replace hpp := Lib.hid (hpp.out.later hbx); have c0 := hpp.out.1.1.c0; have c1 := hpp.out.1.1.c1)
        | ((with_reducible refine (hW.out _).mono ?_); rintro e X ⟨rfl, hbx⟩; replace hpp := Lib.hid (hpp.out.later hbx)))
      go_ret
      exact ⟨rfl, hpp.out.2⟩
    | true =>
      rw [hm] at hM0
      have hMay : MayP (L.map (·.1)) win := may_facts hm
      replace hM0 := Lib.hid hM0
      have hlen := may_len hMay
      rw [List.length_map, hn] at hlen
      clear hok hm
      by_cases hl1 : nn < 1
      · clear hn hS h20 hqo hMay
        go_enter Try.func5, Try.ntmps5
        go_wp2_with (first
          | ((with_reducible refine hG.out.mono ?_); rintro e X ⟨rfl, hbx⟩; replace hpp := Lib.hid (hpp.out.later hbx); have c0 := hpp.out.1.1.c0; have c1 := hpp.out.1.1.c1)
          | ((with_reducible refine (hM0.out _ hpp.out).mono ?_); rintro e X ⟨rfl, hbx⟩; replace hpp := Lib.hid (hpp.out.later hbx); have c0 := hpp.out.1.1.c0; have c1 := hpp.out.1.1.c1)
          | ((with_reducible refine (hW.out _).mono ?_); rintro e X ⟨rfl, hbx⟩; replace hpp := Lib.hid (hpp.out.later hbx)))
        go_ret
        exact ⟨rfl, hpp.out.2⟩
      · by_cases hl2 : 1000 < nn
        · clear hn hS h20 hqo hMay
          go_enter Try.func5, Try.ntmps5
          go_wp2_with (first
            | ((with_reducible refine hG.out.mono ?_); rintro e X ⟨rfl, hbx⟩; replace hpp := Lib.hid (hpp.out.later hbx); have c0 := hpp.out.1.1.c0; have c1 := hpp.out.1.1.c1)
            | ((with_reducible refine (hM0.out _ hpp.out).mono ?_); rintro e X ⟨rfl, hbx⟩; replace hpp := Lib.hid (hpp.out.later hbx); have c0 := hpp.out.1.1.c0; have c1 := hpp.out.1.1.c1)
            | ((with_reducible refine (hW.out _).mono ?_); rintro e X ⟨rfl, hbx⟩; replace hpp := Lib.hid (hpp.out.later hbx)))
          go_ret
          exact ⟨rfl, hpp.out.2⟩
        · have hn1 : 0 < n := by omega
          have hnz : ((n : Int) == 0) = false := by simp; omega
          have hn0' : ¬ (n : Int) = 0 := by omega
          have ht1 : 1 ≤ nn := by omega
          have ht2 : nn ≤ 1000 := by omega
          replace hS := Lib.hid hS
          replace h20 := Lib.hid h20
          replace hqo := Lib.hid hqo
          replace hMay := Lib.hid hMay
          replace hn := Lib.hid hn
          go_enter Try.func5, Try.ntmps5
          go_upto_region 3 with (first
            | ((with_reducible refine hG.out.mono ?_); rintro e X ⟨rfl, hbx⟩; replace hpp := Lib.hid (hpp.out.later hbx); have c0 := hpp.out.1.1.c0; have c1 := hpp.out.1.1.c1)
            | ((with_reducible refine (hM0.out _ hpp.out).mono ?_); rintro e X ⟨rfl, hbx⟩; replace hpp := Lib.hid (hpp.out.later hbx); have c0 := hpp.out.1.1.c0; have c1 := hpp.out.1.1.c1))
          go_cut [1] (fun t wx => ∃ k : Nat, k < n ∧ t = .int .i64 k ∧ ∃ q, wx = X.drewN q)
          case first =>
            go_wp2_with fail
            go_quiet (fail)
            go_wp2_with fail
            go_meet
            obtain ⟨k, hk, e⟩ := rem_k at_ n (by omega) (by omega)
            exact ⟨k, hk, congrArg _ e, _, rfl⟩
          case rest =>
            obtain ⟨j, hj, rfl, q, rfl⟩ := hcut
            have hI3 := Lib.hid (hpp.out.later (drewN_kept X q))
            clear hpp c0 c1 hl1 hl2 hnz hn0' hG hM0 hbx
            generalize X.drewN q = w3 at *
            have hjn : (j : Int) < n := by omega
            go_wp2_with fail
            go_loopw [7] (fun t wt => ∃ r : Nat, 1 ≤ r ∧ r ≤ 8 ∧ t = .int .i64 r ∧ Hid (OnK w a n c win L wt)) (fun t _ => 8 - (intOf t).toNat)
            case atStart => exact ⟨1, by omega, by omega, rfl, hI3.out⟩
            case round =>
              obtain ⟨r, hr1, hr8, rfl, hIr⟩ := hrel
              clear hI3
              have k0 := hIr.out.1.1.c0
              have k1 := hIr.out.1.1.c1
              by_cases hlt : r < 8
              · have hO := Lib.hid (refOwn_D a n c win L hS.out.fits wr hn.out hIr.out.1.2.2)
                have hr7 : r = 1 ∨ r = 2 ∨ r = 3 ∨ r = 4 ∨ r = 5 ∨ r = 6 ∨ r = 7 := by omega
                clear hr1 hr8 hlt
                rcases hr7 with rfl | rfl | rfl | rfl | rfl | rfl | rfl
                · exact oneR1 L win nn w wn n a c h40 hlen hn1 ht1 ht2 hS h20 hqo hMay hn _ _ _ _ _ _ _ _ _ _ _ _ _ _ _ _ _ _ _ _ _ _ _ _ _ _ _ _ _ _ _ _ _ _ _ _ _ _ _ _ _ _ _ _ _ _ _ _ _ _ _ _ _ _ _ _ _ _ _ _ _ _ _ _ _ _ _ _ _ _ _ _ _ _ _ _ _ _ _ _ _ _ _ _ _ _ _ _ _ _ _ _ _ _ _ _ _ _ _ _ _ _ _ _ _ _ _ _ _ _ _ _ _ _ _ _ _ _ _ _ _ _ _ _ _ _ _ _ _ _ _ _ _ _ _ _ _ _ _ _ _ _ _ _ _ _ _ _ _ _ _ _ _ _ _ _ _ _ _ _ _ _ _ _ _ _ _ _ _ _ _ _ _ _ _ _ _ _ _ _ _ _ _ _ _ _ _ _ _ _ j hj hjn _ wr hIr k0 k1 hO
                · exact oneR2 L win nn w wn n a c h40 hlen hn1 ht1 ht2 hS h20 hqo hMay hn _ _ _ _ _ _ _ _ _ _ _ _ _ _ _ _ _ _ _ _ _ _ _ _ _ _ _ _ _ _ _ _ _ _ _ _ _ _ _ _ _ _ _ _ _ _ _ _ _ _ _ _ _ _ _ _ _ _ _ _ _ _ _ _ _ _ _ _ _ _ _ _ _ _ _ _ _ _ _ _ _ _ _ _ _ _ _ _ _ _ _ _ _ _ _ _ _ _ _ _ _ _ _ _ _ _ _ _ _ _ _ _ _ _ _ _ _ _ _ _ _ _ _ _ _ _ _ _ _ _ _ _ _ _ _ _ _ _ _ _ _ _ _ _ _ _ _ _ _ _ _ _ _ _ _ _ _ _ _ _ _ _ _ _ _ _ _ _ _ _ _ _ _ _ _ _ _ _ _ _ _ _ _ _ _ _ _ _ _ _ j hj hjn _ wr hIr k0 k1 hO
                · exact oneR3 L win nn w wn n a c h40 hlen hn1 ht1 ht2 hS h20 hqo hMay hn _ _ _ _ _ _ _ _ _ _ _ _ _ _ _ _ _ _ _ _ _ _ _ _ _ _ _ _ _ _ _ _ _ _ _ _ _ _ _ _ _ _ _ _ _ _ _ _ _ _ _ _ _ _ _ _ _ _ _ _ _ _ _ _ _ _ _ _ _ _ _ _ _ _ _ _ _ _ _ _ _ _ _ _ _ _ _ _ _ _ _ _ _ _ _ _ _ _ _ _ _ _ _ _ _ _ _ _ _ _ _ _ _ _ _ _ _ _ _ _ _ _ _ _ _ _ _ _ _ _ _ _ _ _ _ _ _ _ _ _ _ _ _ _ _ _ _ _ _ _ _ _ _ _ _ _ _ _ _ _ _ _ _ _ _ _ _ _ _ _ _ _ _ _ _ _ _ _ _ _ _ _ _ _ _ _ _ _ _ _ j hj hjn _ wr hIr k0 k1 hO
                · exact oneR4 L win nn w wn n a c h40 hlen hn1 ht1 ht2 hS h20 hqo hMay hn _ _ _ _ _ _ _ _ _ _ _ _ _ _ _ _ _ _ _ _ _ _ _ _ _ _ _ _ _ _ _ _ _ _ _ _ _ _ _ _ _ _ _ _ _ _ _ _ _ _ _ _ _ _ _ _ _ _ _ _ _ _ _ _ _ _ _ _ _ _ _ _ _ _ _ _ _ _ _ _ _ _ _ _ _ _ _ _ _ _ _ _ _ _ _ _ _ _ _ _ _ _ _ _ _ _ _ _ _ _ _ _ _ _ _ _ _ _ _ _ _ _ _ _ _ _ _ _ _ _ _ _ _ _ _ _ _ _ _ _ _ _ _ _ _ _ _ _ _ _ _ _ _ _ _ _ _ _ _ _ _ _ _ _ _ _ _ _ _ _ _ _ _ _ _ _ _ _ _ _ _ _ _ _ _ _ _ _ _ _ j hj hjn _ wr hIr k0 k1 hO
                · exact oneR5 L win nn w wn n a c h40 hlen hn1 ht1 ht2 hS h20 hqo hMay hn _ _ _ _ _ _ _ _ _ _ _ _ _ _ _ _ _ _ _ _ _ _ _ _ _ _ _ _ _ _ _ _ _ _ _ _ _ _ _ _ _ _ _ _ _ _ _ _ _ _ _ _ _ _ _ _ _ _ _ _ _ _ _ _ _ _ _ _ _ _ _ _ _ _ _ _ _ _ _ _ _ _ _ _ _ _ _ _ _ _ _ _ _ _ _ _ _ _ _ _ _ _ _ _ _ _ _ _ _ _ _ _ _ _ _ _ _ _ _ _ _ _ _ _ _ _ _ _ _ _ _ _ _ _ _ _ _ _ _ _ _ _ _ _ _ _ _ _ _ _ _ _ _ _ _ _ _ _ _ _ _ _ _ _ _ _ _ _ _ _ _ _ _ _ _ _ _ _ _ _ _ _ _ _ _ _ _ _ _ _ j hj hjn _ wr hIr k0 k1 hO
                · exact oneR6 L win nn w wn n a c h40 hlen hn1 ht1 ht2 hS h20 hqo hMay hn _ _ _ _ _ _ _ _ _ _ _ _ _ _ _ _ _ _ _ _ _ _ _ _ _ _ _ _ _ _ _ _ _ _ _ _ _ _ _ _ _ _ _ _ _ _ _ _ _ _ _ _ _ _ _ _ _ _ _ _ _ _ _ _ _ _ _ _ _ _ _ _ _ _ _ _ _ _ _ _ _ _ _ _ _ _ _ _ _ _ _ _ _ _ _ _ _ _ _ _ _ _ _ _ _ _ _ _ _ _ _ _ _ _ _ _ _ _ _ _ _ _ _ _ _ _ _ _ _ _ _ _ _ _ _ _ _ _ _ _ _ _ _ _ _ _ _ _ _ _ _ _ _ _ _ _ _ _ _ _ _ _ _ _ _ _ _ _ _ _ _ _ _ _ _ _ _ _ _ _ _ _ _ _ _ _ _ _ _ _ j hj hjn _ wr hIr k0 k1 hO
                · exact oneR7 L win nn w wn n a c h40 hlen hn1 ht1 ht2 hS h20 hqo hMay hn _ _ _ _ _ _ _ _ _ _ _ _ _ _ _ _ _ _ _ _ _ _ _ _ _ _ _ _ _ _ _ _ _ _ _ _ _ _ _ _ _ _ _ _ _ _ _ _ _ _ _ _ _ _ _ _ _ _ _ _ _ _ _ _ _ _ _ _ _ _ _ _ _ _ _ _ _ _ _ _ _ _ _ _ _ _ _ _ _ _ _ _ _ _ _ _ _ _ _ _ _ _ _ _ _ _ _ _ _ _ _ _ _ _ _ _ _ _ _ _ _ _ _ _ _ _ _ _ _ _ _ _ _ _ _ _ _ _ _ _ _ _ _ _ _ _ _ _ _ _ _ _ _ _ _ _ _ _ _ _ _ _ _ _ _ _ _ _ _ _ _ _ _ _ _ _ _ _ _ _ _ _ _ _ _ _ _ _ _ _ j hj hjn _ wr hIr k0 k1 hO
              · obtain rfl : r = 8 := by omega
                go_wp2_with ((with_reducible refine (hW.out _).mono ?_); rintro e w9 ⟨rfl, hb9⟩)
                go_ret
                exact ⟨rfl, kept_trans hIr.out.2 hb9⟩
end Go.Proofs.Ytmgkamljlgmmeaa.Tree
