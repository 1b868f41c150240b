/-
  Contracts of record's Right, Src, Ts and of wire's numbers: what a record tells, its seven numbers; condition: what tell answers, a point whose parts are whole.
-/
import Derived.Test.YtepbjjddpfejnaaK
namespace Go.Proofs.Ytepbjjddpfejnaa
open Go.ChangeShapes Go.WideShapes Go.ChangeAt Go.RowKit
set_option linter.unusedVariables false
set_option linter.unusedSimpArgs false
/-- What tell answers of a record. -/
def TellIs (r : Value) (b : Bool) (s t : Int) : Prop := ∀ w, Calls Try.prog 41 #[r] w fun e w' => e = .returned (.agg #[.bool b, .int .i64 s, .int .i64 t]) ∧ Below w.heap.size w w'
theorem TellIs.at {r : Value} {b : Bool} {s t : Int} (h : TellIs r b s t) (w : World) : Calls Try.prog 41 #[r] w fun e w' => e = .returned (.agg #[.bool b, .int .i64 s, .int .i64 t]) ∧ Below w.heap.size w w' := h w
theorem field_told (b : Bool) (s t : Int) (w : World) : (Instr.field 76 (.agg #[.bool b, .int .i64 s, .int .i64 t]) 0).run Try.prog w = .ok (.bool b) w ∧ (Instr.field 76 (.agg #[.bool b, .int .i64 s, .int .i64 t]) 1).run Try.prog w = .ok (.int .i64 s) w ∧ (Instr.field 76 (.agg #[.bool b, .int .i64 s, .int .i64 t]) 2).run Try.prog w = .ok (.int .i64 t) w := ⟨by kernel_rfl, by kernel_rfl, by kernel_rfl⟩
set_option maxHeartbeats 400000 in
theorem right_of (k ts src seq ek : Int) (p q : Nat) (rs rt : Int) (b : Bool) (s t : Int) (h : TellIs (RV k ts src seq ek p q rs rt) b s t) (w : World) :
    Calls Try.prog 30 #[RV k ts src seq ek p q rs rt] w fun e w' => e = .returned (.bool b) ∧ Below w.heap.size w w' := by
  go_enter Try.func30, Try.ntmps30
  go_wp2_with fail
  (with_reducible refine (h.at _).mono ?_)
  rintro e w1 ⟨rfl, hb⟩
  have hf := (field_told b s t w1).1
  go_wp2
  go_ret
  exact ⟨rfl, ((Below.refl _ _).alloc (Nat.le_refl _) _).trans (hb.mono (by simp))⟩
set_option maxHeartbeats 400000 in
theorem src_of (k ts src seq ek : Int) (p q : Nat) (rs rt : Int) (b : Bool) (s t : Int) (h : TellIs (RV k ts src seq ek p q rs rt) b s t) (w : World) :
    Calls Try.prog 51 #[RV k ts src seq ek p q rs rt] w fun e w' => e = .returned (.int .i64 s) ∧ Below w.heap.size w w' := by
  go_enter Try.func51, Try.ntmps51
  go_wp2_with fail
  (with_reducible refine (h.at _).mono ?_)
  rintro e w1 ⟨rfl, hb⟩
  have hf := (field_told b s t w1).2.1
  go_wp2
  go_ret
  exact ⟨rfl, ((Below.refl _ _).alloc (Nat.le_refl _) _).trans (hb.mono (by simp))⟩
set_option maxHeartbeats 400000 in
theorem ts_of (k ts src seq ek : Int) (p q : Nat) (rs rt : Int) (b : Bool) (s t : Int) (h : TellIs (RV k ts src seq ek p q rs rt) b s t) (w : World) :
    Calls Try.prog 50 #[RV k ts src seq ek p q rs rt] w fun e w' => e = .returned (.int .i64 t) ∧ Below w.heap.size w w' := by
  go_enter Try.func50, Try.ntmps50
  go_wp2_with fail
  (with_reducible refine (h.at _).mono ?_)
  rintro e w1 ⟨rfl, hb⟩
  have hf := (field_told b s t w1).2.2
  go_wp2
  go_ret
  exact ⟨rfl, ((Below.refl _ _).alloc (Nat.le_refl _) _).trans (hb.mono (by simp))⟩
theorem seven_held {W : World} {D : Nat} {v0 v1 v2 v3 v4 v5 v6 x0 x1 x2 x3 x4 x5 x6 : Value}
    (h0 : (((((((W.setCell ⟨D, 0, none⟩ v0).setCell ⟨D, 1, none⟩ v1).setCell ⟨D, 2, none⟩ v2).setCell ⟨D, 3, none⟩ v3).setCell ⟨D, 4, none⟩ v4).setCell ⟨D, 5, none⟩ v5).setCell ⟨D, 6, none⟩ v6).cell? ⟨D, 0, none⟩ = some x0) (h1 : (((((((W.setCell ⟨D, 0, none⟩ v0).setCell ⟨D, 1, none⟩ v1).setCell ⟨D, 2, none⟩ v2).setCell ⟨D, 3, none⟩ v3).setCell ⟨D, 4, none⟩ v4).setCell ⟨D, 5, none⟩ v5).setCell ⟨D, 6, none⟩ v6).cell? ⟨D, 1, none⟩ = some x1) (h2 : (((((((W.setCell ⟨D, 0, none⟩ v0).setCell ⟨D, 1, none⟩ v1).setCell ⟨D, 2, none⟩ v2).setCell ⟨D, 3, none⟩ v3).setCell ⟨D, 4, none⟩ v4).setCell ⟨D, 5, none⟩ v5).setCell ⟨D, 6, none⟩ v6).cell? ⟨D, 2, none⟩ = some x2) (h3 : (((((((W.setCell ⟨D, 0, none⟩ v0).setCell ⟨D, 1, none⟩ v1).setCell ⟨D, 2, none⟩ v2).setCell ⟨D, 3, none⟩ v3).setCell ⟨D, 4, none⟩ v4).setCell ⟨D, 5, none⟩ v5).setCell ⟨D, 6, none⟩ v6).cell? ⟨D, 3, none⟩ = some x3) (h4 : (((((((W.setCell ⟨D, 0, none⟩ v0).setCell ⟨D, 1, none⟩ v1).setCell ⟨D, 2, none⟩ v2).setCell ⟨D, 3, none⟩ v3).setCell ⟨D, 4, none⟩ v4).setCell ⟨D, 5, none⟩ v5).setCell ⟨D, 6, none⟩ v6).cell? ⟨D, 4, none⟩ = some x4) (h5 : (((((((W.setCell ⟨D, 0, none⟩ v0).setCell ⟨D, 1, none⟩ v1).setCell ⟨D, 2, none⟩ v2).setCell ⟨D, 3, none⟩ v3).setCell ⟨D, 4, none⟩ v4).setCell ⟨D, 5, none⟩ v5).setCell ⟨D, 6, none⟩ v6).cell? ⟨D, 5, none⟩ = some x5) (h6 : (((((((W.setCell ⟨D, 0, none⟩ v0).setCell ⟨D, 1, none⟩ v1).setCell ⟨D, 2, none⟩ v2).setCell ⟨D, 3, none⟩ v3).setCell ⟨D, 4, none⟩ v4).setCell ⟨D, 5, none⟩ v5).setCell ⟨D, 6, none⟩ v6).cell? ⟨D, 6, none⟩ = some x6) :
    (((((((W.setCell ⟨D, 0, none⟩ v0).setCell ⟨D, 1, none⟩ v1).setCell ⟨D, 2, none⟩ v2).setCell ⟨D, 3, none⟩ v3).setCell ⟨D, 4, none⟩ v4).setCell ⟨D, 5, none⟩ v5).setCell ⟨D, 6, none⟩ v6).cell? ⟨D, 0, none⟩ = some v0 ∧ (((((((W.setCell ⟨D, 0, none⟩ v0).setCell ⟨D, 1, none⟩ v1).setCell ⟨D, 2, none⟩ v2).setCell ⟨D, 3, none⟩ v3).setCell ⟨D, 4, none⟩ v4).setCell ⟨D, 5, none⟩ v5).setCell ⟨D, 6, none⟩ v6).cell? ⟨D, 1, none⟩ = some v1 ∧ (((((((W.setCell ⟨D, 0, none⟩ v0).setCell ⟨D, 1, none⟩ v1).setCell ⟨D, 2, none⟩ v2).setCell ⟨D, 3, none⟩ v3).setCell ⟨D, 4, none⟩ v4).setCell ⟨D, 5, none⟩ v5).setCell ⟨D, 6, none⟩ v6).cell? ⟨D, 2, none⟩ = some v2 ∧ (((((((W.setCell ⟨D, 0, none⟩ v0).setCell ⟨D, 1, none⟩ v1).setCell ⟨D, 2, none⟩ v2).setCell ⟨D, 3, none⟩ v3).setCell ⟨D, 4, none⟩ v4).setCell ⟨D, 5, none⟩ v5).setCell ⟨D, 6, none⟩ v6).cell? ⟨D, 3, none⟩ = some v3 ∧ (((((((W.setCell ⟨D, 0, none⟩ v0).setCell ⟨D, 1, none⟩ v1).setCell ⟨D, 2, none⟩ v2).setCell ⟨D, 3, none⟩ v3).setCell ⟨D, 4, none⟩ v4).setCell ⟨D, 5, none⟩ v5).setCell ⟨D, 6, none⟩ v6).cell? ⟨D, 4, none⟩ = some v4 ∧ (((((((W.setCell ⟨D, 0, none⟩ v0).setCell ⟨D, 1, none⟩ v1).setCell ⟨D, 2, none⟩ v2).setCell ⟨D, 3, none⟩ v3).setCell ⟨D, 4, none⟩ v4).setCell ⟨D, 5, none⟩ v5).setCell ⟨D, 6, none⟩ v6).cell? ⟨D, 5, none⟩ = some v5 ∧ (((((((W.setCell ⟨D, 0, none⟩ v0).setCell ⟨D, 1, none⟩ v1).setCell ⟨D, 2, none⟩ v2).setCell ⟨D, 3, none⟩ v3).setCell ⟨D, 4, none⟩ v4).setCell ⟨D, 5, none⟩ v5).setCell ⟨D, 6, none⟩ v6).cell? ⟨D, 6, none⟩ = some v6 := by
  refine ⟨?_, ?_, ?_, ?_, ?_, ?_, ?_⟩
  · rw [World.cell?_setCell_other _ _ _ _ (by simp), World.cell?_setCell_other _ _ _ _ (by simp), World.cell?_setCell_other _ _ _ _ (by simp), World.cell?_setCell_other _ _ _ _ (by simp), World.cell?_setCell_other _ _ _ _ (by simp), World.cell?_setCell_other _ _ _ _ (by simp)] at h0 ⊢
    exact set_self h0
  · rw [World.cell?_setCell_other _ _ _ _ (by simp), World.cell?_setCell_other _ _ _ _ (by simp), World.cell?_setCell_other _ _ _ _ (by simp), World.cell?_setCell_other _ _ _ _ (by simp), World.cell?_setCell_other _ _ _ _ (by simp)] at h1 ⊢
    exact set_self h1
  · rw [World.cell?_setCell_other _ _ _ _ (by simp), World.cell?_setCell_other _ _ _ _ (by simp), World.cell?_setCell_other _ _ _ _ (by simp), World.cell?_setCell_other _ _ _ _ (by simp)] at h2 ⊢
    exact set_self h2
  · rw [World.cell?_setCell_other _ _ _ _ (by simp), World.cell?_setCell_other _ _ _ _ (by simp), World.cell?_setCell_other _ _ _ _ (by simp)] at h3 ⊢
    exact set_self h3
  · rw [World.cell?_setCell_other _ _ _ _ (by simp), World.cell?_setCell_other _ _ _ _ (by simp)] at h4 ⊢
    exact set_self h4
  · rw [World.cell?_setCell_other _ _ _ _ (by simp)] at h5 ⊢
    exact set_self h5
  · exact set_self h6
/-- Seven cells lie at block D that may be written. -/
def Row7 (D : Nat) (W : World) : Prop := ∀ o, o < 7 → (∃ v, W.cell? ⟨D, o, none⟩ = some v) ∧ W.frozen? ⟨D, o, none⟩ = false
theorem Row7.at {D o : Nat} {W : World} (h : Row7 D W) (ho : o < 7) : W.cell? ⟨D, o, none⟩ = some (heldAt D o W) := by obtain ⟨⟨v, hv⟩, _⟩ := h o ho; exact held_of hv
theorem Row7.open {D o : Nat} {W : World} (h : Row7 D W) (ho : o < 7) : W.frozen? ⟨D, o, none⟩ = false := (h o ho).2
theorem Row7.set {D : Nat} {W : World} (h : Row7 D W) (a : Addr) (u : Value) : Row7 D (W.setCell a u) := fun o ho => by
  obtain ⟨⟨v, hv⟩, hf⟩ := h o ho
  exact ⟨cell?_setCell_some hv, by rw [World.frozen?_setCell]; exact hf⟩
theorem Row7.later {D : Nat} {W W' : World} (h : Row7 D W) (hl : D < W.heap.size) (hb : Below W.heap.size W W') : Row7 D W' := fun o ho => by
  obtain ⟨⟨v, hv⟩, hf⟩ := h o ho
  exact ⟨⟨v, bcell hb hl hv⟩, bfrozen hb hl hf⟩
attribute [local go_sem] Row7.at Row7.open Row7.set
/-- What is kept while the seven numbers are gathered. -/
abbrev SN (A : Nat) (k ts src seq ek : Int) (p q : Nat) (rs rt : Int) (w w' : World) : Prop := A + 1 + 1 < w'.heap.size ∧ w'.cell? ⟨A, 0, none⟩ = some (.int .u8 k) ∧ w'.cell? ⟨A, 1, none⟩ = some (.int .i64 ts) ∧ w'.cell? ⟨A, 2, none⟩ = some (.int .i64 src) ∧ w'.cell? ⟨A, 3, none⟩ = some (.int .i64 seq) ∧ w'.cell? ⟨A, 4, none⟩ = some (.int .i64 ek) ∧ w'.cell? ⟨A, 5, none⟩ = some (.complex .f64 p q) ∧ w'.cell? ⟨A, 6, none⟩ = some (.int .i64 rs) ∧ w'.cell? ⟨A, 7, none⟩ = some (.int .i64 rt) ∧ w'.cell? ⟨A + 1 + 1, 2, none⟩ = some (.int .i64 seq) ∧ w'.cell? ⟨A + 1 + 1, 3, none⟩ = some (.int .i64 ek) ∧ w'.cell? ⟨A + 1 + 1, 4, none⟩ = some (.complex .f64 p q) ∧ Row7 (A + 1) w' ∧ Below A w w'
theorem SN.call {A : Nat} {k ts src seq ek : Int} {p q : Nat} {rs rt : Int} {w W w1 : World} (h : SN A k ts src seq ek p q rs rt w W) (hb : Below W.heap.size W w1) : SN A k ts src seq ek p q rs rt w w1 := by
  obtain ⟨z, r0, r1, r2, r3, r4, r5, r6, r7, e2, e3, e4, hr, b⟩ := h
  have l0 : A < W.heap.size := by omega
  exact ⟨beyond hb z, bcell hb l0 r0, bcell hb l0 r1, bcell hb l0 r2, bcell hb l0 r3, bcell hb l0 r4, bcell hb l0 r5, bcell hb l0 r6, bcell hb l0 r7, bcell hb z e2, bcell hb z e3, bcell hb z e4, hr.later (by omega) hb, b.trans (hb.mono (by omega))⟩
theorem SN.set {A : Nat} {k ts src seq ek : Int} {p q : Nat} {rs rt : Int} {w W : World} (h : SN A k ts src seq ek p q rs rt w W) (o : Nat) (v : Value) : SN A k ts src seq ek p q rs rt w (W.setCell ⟨A + 1, o, none⟩ v) := by
  obtain ⟨z, r0, r1, r2, r3, r4, r5, r6, r7, e2, e3, e4, hr, b⟩ := h
  exact ⟨by rw [World.size_setCell]; exact z, set_far (by simp) r0, set_far (by simp) r1, set_far (by simp) r2, set_far (by simp) r3, set_far (by simp) r4, set_far (by simp) r5, set_far (by simp) r6, set_far (by simp) r7, set_far (by simp) e2, set_far (by simp) e3, set_far (by simp) e4, hr.set _ _, b.setCell (p := ⟨A + 1, o, none⟩) (by simp) v⟩
theorem SN.start {A : Nat} {k ts src seq ek : Int} {p q : Nat} {rs rt : Int} {w w0 : World} (hr : RecAt w0 A k ts src seq ek p q rs rt) (he : EvAt w0 (A + 1 + 1) ts src seq ek p q) (h7 : Row7 (A + 1) w0) (b : Below A w w0) : SN A k ts src seq ek p q rs rt w w0.drew := by
  obtain ⟨g00, r0, r1, r2, r3, r4, r5, r6, r7⟩ := hr
  obtain ⟨z, e0, e1, e2, e3, e4⟩ := he
  exact ⟨z, r0, r1, r2, r3, r4, r5, r6, r7, e2, e3, e4, h7, b.drew⟩
set_option maxRecDepth 100000 in
set_option maxHeartbeats 6400000 in
theorem numbers_of (k ts src seq ek : Int) (p q : Nat) (rs rt : Int) (b : Bool) (s t x y : Int) (hk0 : 0 ≤ k) (hk1 : k ≤ 255) (h : TellIs (RV k ts src seq ek p q rs rt) b s t) (hx : Rep p x) (hy : Rep q y) (bx : x.natAbs < 2 ^ 53) (by' : y.natAbs < 2 ^ 53) (w : World) :
    Calls Try.prog 44 #[RV k ts src seq ek p q rs rt] w fun e w' => e = .returned (.agg #[.int .i64 k, .int .i64 t, .int .i64 s, .int .i64 seq, .int .i64 ek, .int .i64 x, .int .i64 y]) ∧ Below w.heap.size w w' := by
  have hS := Lib.hid (src_of k ts src seq ek p q rs rt b s t h)
  have hT := Lib.hid (ts_of k ts src seq ek p q rs rt b s t h)
  have cx := conv_int p x hx bx
  have cy := conv_int q y hy by'
  clear hx hy h bx by'
  obtain ⟨A, hA⟩ : ∃ A, w.heap.size = A := ⟨_, rfl⟩
  go_enter Try.func44, Try.ntmps44
  go_wp2_with fail
  obtain ⟨w0, hw0⟩ : ∃ w0, ((w.alloc (.cells #[.int .u8 k, .int .i64 ts, .int .i64 src, .int .i64 seq, .int .i64 ek, .complex .f64 p q, .int .i64 rs, .int .i64 rt] 42)).alloc (.cells #[.int .i64 0, .int .i64 0, .int .i64 0, .int .i64 0, .int .i64 0, .int .i64 0, .int .i64 0] 68)).alloc (.cells #[.int .i64 ts, .int .i64 src, .int .i64 seq, .int .i64 ek, .complex .f64 p q] 40) = w0 := ⟨_, rfl⟩
  have hst : SN A k ts src seq ek p q rs rt w w0.drew := by
    rw [← hw0, ← hA]
    refine SN.start ((RecAt.new w k ts src seq ek p q rs rt).later (((Below.refl _ _).alloc (Nat.le_refl _) _).alloc (by simp) _)) (by simp [EvAt, go_sem]) ?_ ?_
    · intro o ho
      rcases below7 ho with rfl | rfl | rfl | rfl | rfl | rfl | rfl <;> simp [go_sem]
    · exact ((Below.refl _ _).alloc (Nat.le_refl _) _ |>.alloc (by simp) _).alloc (by simp <;> omega) _
  rw [hw0]
  clear hw0
  have hw : IntKind.i64.wrap k = k := IntWalk.i64_in _ (by omega)
  have HA := Lib.hid hA
  clear hA
  go_region_held3 (fun w' => A + 1 + 1 < w'.heap.size ∧ w'.cell? ⟨A, 0, none⟩ = some (.int .u8 k) ∧ w'.cell? ⟨A, 1, none⟩ = some (.int .i64 ts) ∧ w'.cell? ⟨A, 2, none⟩ = some (.int .i64 src) ∧ w'.cell? ⟨A, 3, none⟩ = some (.int .i64 seq) ∧ w'.cell? ⟨A, 4, none⟩ = some (.int .i64 ek) ∧ w'.cell? ⟨A, 5, none⟩ = some (.complex .f64 p q) ∧ w'.cell? ⟨A, 6, none⟩ = some (.int .i64 rs) ∧ w'.cell? ⟨A, 7, none⟩ = some (.int .i64 rt) ∧ w'.cell? ⟨A + 1 + 1, 2, none⟩ = some (.int .i64 seq) ∧ w'.cell? ⟨A + 1 + 1, 3, none⟩ = some (.int .i64 ek) ∧ w'.cell? ⟨A + 1 + 1, 4, none⟩ = some (.complex .f64 p q) ∧ Row7 (A + 1) w' ∧ Below A w w')
    (first
      | with_reducible assumption
      | with_reducible exact hst
      | (with_reducible refine SN.call (w1 := w1) ?_ hb; with_reducible assumption)
      | (with_reducible refine SN.set (SN.set (SN.set (SN.set (SN.set (SN.set (SN.set (?_) 0 (.int .i64 k)) 1 (.int .i64 t)) 2 (.int .i64 s)) 3 (.int .i64 seq)) 4 (.int .i64 ek)) 5 (.int .i64 x)) 6 (.int .i64 y); with_reducible assumption))
    (first | ((with_reducible refine (hT.out _).mono ?_); rintro e w1 ⟨rfl, hb⟩; clear hst) | ((with_reducible refine (hS.out _).mono ?_); rintro e w1 ⟨rfl, hb⟩))
  all_goals
    go_split_ands
    have h7 := ‹Row7 (A + 1) _›
    have hbl := ‹Below A w _›
    have hfin : Below w.heap.size w (((((((w1.setCell ⟨A + 1, 0, none⟩ (.int .i64 k)).setCell ⟨A + 1, 1, none⟩ (.int .i64 t)).setCell ⟨A + 1, 2, none⟩ (.int .i64 s)).setCell ⟨A + 1, 3, none⟩ (.int .i64 seq)).setCell ⟨A + 1, 4, none⟩ (.int .i64 ek)).setCell ⟨A + 1, 5, none⟩ (.int .i64 x)).setCell ⟨A + 1, 6, none⟩ (.int .i64 y)) := by rw [HA.out]; exact hbl
    obtain ⟨e0, e1, e2, e3, e4, e5, e6⟩ := seven_held (W := w1) (D := A + 1) (h7.at (o := 0) (by omega)) (h7.at (o := 1) (by omega)) (h7.at (o := 2) (by omega)) (h7.at (o := 3) (by omega)) (h7.at (o := 4) (by omega)) (h7.at (o := 5) (by omega)) (h7.at (o := 6) (by omega))
    go_wp2
    clear hbl h7 hb
    generalize (((((((w1.setCell ⟨A + 1, 0, none⟩ (.int .i64 k)).setCell ⟨A + 1, 1, none⟩ (.int .i64 t)).setCell ⟨A + 1, 2, none⟩ (.int .i64 s)).setCell ⟨A + 1, 3, none⟩ (.int .i64 seq)).setCell ⟨A + 1, 4, none⟩ (.int .i64 ek)).setCell ⟨A + 1, 5, none⟩ (.int .i64 x)).setCell ⟨A + 1, 6, none⟩ (.int .i64 y)) = w9 at *
    refine bodyPost_ret (v := .agg #[.int .i64 k, .int .i64 t, .int .i64 s, .int .i64 seq, .int .i64 ek, .int .i64 x, .int .i64 y]) ?_ rfl ⟨rfl, hfin⟩
    clear hS hT cx cy hw
    simp [results, Try.results44, go_sem, e0, e1, e2, e3, e4, e5, e6]
end Go.Proofs.Ytepbjjddpfejnaa
