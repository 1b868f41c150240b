/-
  Contract of num.Read at every text of at most 3000 bytes: the number, or 0 and the error for the form or for one that runs over.
-/
import Derived.Test.YtkedifhlkiffoaaDoorJ
namespace Go.Proofs.YtkedifhlkiffoaaDoor
open Go.ChangeShapes Go.WideShapes Go.ChangeAt Go.RowKit
set_option linter.unusedVariables false
attribute [local go_sem] Oper.semAt_some
/-- The least of which ten times as much, and d below, is a number yet. -/
def leastOf (d : Int) : Int := (-9223372036854775808 + d).tdiv 10
theorem leastOf_eq (d : Int) (h0 : 0 ≤ d) (h9 : d ≤ 9) : leastOf d = -((9223372036854775808 - d) / 10) := by
  unfold leastOf
  rw [show (-9223372036854775808 : Int) + d = -(9223372036854775808 - d) by omega, Int.neg_tdiv, Int.tdiv_eq_ediv_of_nonneg (by omega)]
/-- A digit more: (the number below 0, whether it has run over). -/
def stepR (st : Int × Bool) (d : Int) : Int × Bool := if st.2 = true ∨ st.1 < leastOf d then (st.1, true) else (st.1 * 10 - d, false)
def stR (ds : List Int) : Int × Bool := ds.foldl stepR (0, false)
theorem stR_snoc (ds : List Int) (d : Int) : stR (ds ++ [d]) = stepR (stR ds) d := by simp [stR]
/-- At the head of a round, pre having come. -/
def RIn (Bn Bo : Nat) (w : World) (pre : List Dg) (W : World) : Prop :=
  (∃ m o, (Boxed W Bn 3 (.int .i64 m) ∧ Boxed W Bo 4 (.bool o)) ∧ stR (pre.map (·.1)) = (m, o) ∧ (∀ x ∈ pre, 0 ≤ x.1) ∧ -9223372036854775808 ≤ m ∧ m ≤ 0) ∧ Below w.heap.size w W
def ROut (w : World) (c : Code) (pre : List Dg) (W : World) : Prop := (c = .goto 0 ∧ ∃ x ∈ pre, x.1 = -1) ∧ Below w.heap.size w W
theorem RIn_own (Bn Bo : Nat) (w : World) (B : Nat) (hB : w.heap.size ≤ B) : OwnFrom B (RIn Bn Bo w) := by
  intro s A C row hs hg hr
  obtain ⟨⟨m, o, ⟨h1, h2⟩, h3⟩, hb⟩ := hs
  exact ⟨⟨m, o, ⟨boxed_own Bn 3 (fun m : Int => .int .i64 m) m A C row h1 hg (fun r e => (hr r e).2), boxed_own Bo 4 (fun o : Bool => .bool o) o A C row h2 hg (fun r e => (hr r e).2)⟩, h3⟩, ownFrom_below (Nat.le_refl _) hB s A C row hb hg hr⟩
theorem ROut_own (w : World) (c : Code) (B : Nat) (hB : w.heap.size ≤ B) : OwnFrom B (ROut w c) := by
  intro s A C row hs hg hr
  exact ⟨hs.1, ownFrom_below (Nat.le_refl _) hB s A C row hs.2 hg hr⟩
theorem dof_stops (n : Nat) (hn : 1 ≤ n) (B : Nat) (s : ByteArray) (w : World) (hs : s.size ≤ 3000) (hc : Boxed w B 9 (.string s)) :
    SeqStopsK Fence.wide n Tryd.prog 129 #[.pointer (some ⟨B, 0, none⟩)] (fun x : Dg => #[Value.int .i64 x.1]) (KeepsBox B) (fun ys => ys = s.data.toList.map digD) (fun pre => pre <+: s.data.toList.map digD) 3000 w := fun l J Jx W hW _ _ hY h0 =>
  dof1_in n hn l B s hs J Jx hY W ((hW.block B hc.lt).trans hc) h0
theorem keepsBox_t {B : Nat} {X Y Z : World} (h : KeepsBox B X Y) (k : KeepsBox B Y Z) : KeepsBox B X Z := fun v hv => k v (h v hv)
theorem keepsBox_b (B m : Nat) (W : World) (l : Nat) (o o' : Obj) (_ : m ≤ l) (hl : W.heap[l]? = some o) (ho : o.isCells = false) (_ : o.isWalk = false) : KeepsBox B W (W.putObj l o') := fun v hv => by
  have : B ≠ l := by
    rintro rfl
    rw [show W.heap[B]? = _ from hv] at hl
    cases hl; cases ho
  exact (World.putObj_heap_other this).trans hv
theorem keepsBox_set {B B' : Nat} {W : World} {v : Value} (h : B' ≠ B) : KeepsBox B W (W.setCell ⟨B', 0, none⟩ v) := fun u hu => hu.other (Ne.symm h) _
/-- The bytes behind the sign are digits, at least one, without a 0 ahead. -/
def formB (l : List UInt8) : Bool := !(digs l).isEmpty && !zahead (below l) (digs l) && (digs l).all (fun c => decide (0 ≤ digV c))
/-- The number that digits tell, below 0. -/
def valN (ds : List Int) : Int := ds.foldl (fun n d => n * 10 - d) 0
/-- The number that a text tells. -/
def valT (l : List UInt8) : Int := if below l then valN ((digs l).map digV) else -valN ((digs l).map digV)
def readN (l : List UInt8) : Int := if formB l then only (valT l) else 0
def readE (l : List UInt8) : Int := if formB l then code (valT l) else 11
/-- Whoever jumps to the label: the text has not the form. -/
def RJump (l : List UInt8) (w : World) (a' : Act) (w' : World) : Prop :=
  Hid (formB l = false) ∧ Below w.heap.size w w' ∧ (a'.defers = [] ∨ ∃ D, a'.defers = [{ target := .collected D, args := #[] }] ∧ w'.heap[D]? = some (.deferred (some [])) ∧ w.heap.size ≤ D) ∧
  ∃ s0 s1 s2 s3 s4 s5 s6 s7 s8 s9 s10 s11 s12 s13 s14 s15 s16 s17 s18 s19 s20 s21 s22 s23 s24 s25 s26 s27 s28 s29 s30 s31 s32 s33 s34 s35 s36 s37 s38 s39 s40 s41 s42 s43 s44 s45 s46 s47 s48 s49 s50 s51 s52 s53, a'.tmps = #[s0, s1, s2, s3, s4, s5, s6, s7, s8, s9, s10, s11, s12, s13, s14, s15, s16, s17, s18, s19, s20, s21, s22, s23, s24, s25, s26, s27, s28, s29, s30, s31, s32, s33, s34, s35, s36, s37, s38, s39, s40, s41, s42, s43, s44, s45, s46, s47, s48, s49, s50, s51, s52, s53]
theorem valN_snoc (ds : List Int) (d : Int) : valN (ds ++ [d]) = valN ds * 10 - d := by simp [valN]
theorem stR_val_aux (n : Nat) : ∀ ds : List Int, ds.length = n → (∀ d ∈ ds, 0 ≤ d ∧ d ≤ 9) → ((stR ds).2 = true → valN ds < -9223372036854775808) ∧ ((stR ds).2 = false → valN ds = (stR ds).1 ∧ -9223372036854775808 ≤ (stR ds).1 ∧ (stR ds).1 ≤ 0) := by
  induction n with
  | zero => intro ds hl _; rw [List.length_eq_zero_iff] at hl; subst hl; simp [stR, valN]
  | succ n ih =>
    intro ds hl h
    obtain ⟨es, d, rfl⟩ : ∃ es d, ds = es ++ [d] := ⟨ds.dropLast, ds.getLast (by intro e; simp [e] at hl), (List.dropLast_concat_getLast _).symm⟩
    simp at hl
    obtain ⟨h1, h2⟩ := ih es hl (fun d hd => h d (by simp [hd]))
    obtain ⟨hd0, hd9⟩ := h d (by simp)
    rw [stR_snoc, valN_snoc]
    generalize stR es = st at *
    obtain ⟨m, o⟩ := st
    dsimp only at h1 h2
    unfold stepR
    dsimp only
    have hle := leastOf_eq d hd0 hd9
    cases o
    · obtain ⟨g1, g2, g3⟩ := h2 rfl
      by_cases c : m < leastOf d
      · rw [if_pos (.inr c)]
        refine ⟨fun _ => by omega, fun e => by cases e⟩
      · rw [if_neg (by simp; omega)]
        refine ⟨(fun e => by cases e), fun _ => ⟨by omega, by omega, by omega⟩⟩
    · rw [if_pos (.inl rfl)]
      have := h1 rfl
      refine ⟨fun _ => by omega, fun e => by cases e⟩
theorem stR_val (ds : List Int) (h : ∀ d ∈ ds, 0 ≤ d ∧ d ≤ 9) : ((stR ds).2 = true → valN ds < -9223372036854775808) ∧ ((stR ds).2 = false → valN ds = (stR ds).1) :=
  ⟨(stR_val_aux _ ds rfl h).1, fun e => ((stR_val_aux _ ds rfl h).2 e).1⟩
set_option maxRecDepth 100000 in
set_option maxHeartbeats 2000000 in
theorem read_any (l : List UInt8) (w : World) (hl : l.length ≤ 3000) :
    Calls Tryd.prog 117 #[S l] w fun e w' => e = .returned (.tuple #[.int .i64 (readN l), .int .i64 (readE l)]) ∧ Below w.heap.size w w' := by
  refine (callsIn_wide (n := 3)).1 ?_
  refine callsIn_of_wp_marks Tryd.func117 rfl trivial ?_ rfl
  rw [wpIn_wide]
  simp only [Tryd.ntmps117, List.size_toArray, List.length_cons, List.length_nil, Nat.reduceAdd, Nat.reduceSub, Array.replicate_succ, Array.replicate_zero, List.push_toArray, List.append_toArray, List.nil_append, List.cons_append]
  have hN : Hid (readN l = if formB l then only (valT l) else 0) := rfl
  have hE : Hid (readE l = if formB l then code (valT l) else 11) := rfl
  go_wp2
  refine wp_scope_jumps 0 (RJump l w) (fun _ _ => 0) rfl ?_ ?_
  · have hcut := Lib.hid (cut_any l w hl)
    have hdl : (digs l).length ≤ 3000 := Nat.le_trans (digs_len l) hl
    cases hd : digs l with
    | nil =>
      have hF : Hid (formB l = false) := by show _ = _; simp [formB, hd]
      have hd := Lib.hid hd
      go_wp2_with ((with_reducible refine hcut.out.mono ?_); rintro e w' ⟨rfl, rfl⟩; rw [hd.out])
      go_step3
      exact ⟨rfl, hF, ((Below.refl _ w).alloc (Nat.le_refl _) _).alloc (by simp) _, .inl rfl, _, _, _, _, _, _, _, _, _, _, _, _, _, _, _, _, _, _, _, _, _, _, _, _, _, _, _, _, _, _, _, _, _, _, _, _, _, _, _, _, _, _, _, _, _, _, _, _, _, _, _, _, _, _, rfl⟩
    | cons c t =>
      have hct2 : (⟨(c :: t).toArray⟩ : ByteArray).size ≤ 3000 := by rw [hd] at hdl; simpa [ByteArray.size] using hdl
      have hct : t.length ≤ 3000 := by rw [hd] at hdl; simp at hdl; omega
      have hz := Lib.hid (fun w => zero_any c t (below l) w hct)
      have hFz : zahead (below l) (c :: t) = true → formB l = false := by intro h; simp [formB, hd, h]
      have hD := Lib.hid hd
      have hD' := Lib.hid hd
      clear hd
      generalize hb : below l = b at *
      have hBl := Lib.hid hb
      clear hb
      cases hzz : zahead b (c :: t)
      · rw [hzz] at hz
        have HZ := Lib.hid hzz
        clear hzz hFz
        have hdof := Lib.hid (fun w => dof_any (c :: t) w)
        go_wp2_with (first | ((with_reducible refine hcut.out.mono ?_); rintro e w' ⟨rfl, rfl⟩; rw [hD.out]) | ((with_reducible refine (hz.out _).mono ?_); rintro e w' ⟨rfl, rfl⟩) | ((with_reducible refine (hdof.out _).mono ?_); rintro e w' ⟨rfl, rfl⟩))
        clear hz hcut hdof
        obtain ⟨w0, hw0⟩ : ∃ w0, ((w.alloc (.cells #[.int .i64 0] 3)).alloc (.cells #[.bool false] 4)).alloc (.cells #[S (c :: t)] 9) = w0 := ⟨_, rfl⟩
        have hbox : (Boxed w0 w.heap.size 3 (.int .i64 0) ∧ Boxed w0 (w.heap.size + 1) 4 (.bool false)) ∧ Boxed w0 (w.heap.size + 2) 9 (S (c :: t)) ∧ w0.heap.size = w.heap.size + 3 ∧ Below w.heap.size w w0 := by
          rw [← hw0]
          have b1 := Boxed.new w 3 (.int .i64 0)
          have b2 := Boxed.new (w.alloc (.cells #[.int .i64 0] 3)) 4 (.bool false)
          have b3 := Boxed.new ((w.alloc (.cells #[.int .i64 0] 3)).alloc (.cells #[.bool false] 4)) 9 (S (c :: t))
          simp only [World.size_alloc] at b2 b3
          exact ⟨⟨(b1.alloc _).alloc _, b2.alloc _⟩, b3, by simp, (((Below.refl _ w).alloc (Nat.le_refl _) _).alloc (by simp) _).alloc (by simp; omega) _⟩
        rw [hw0]
        clear hw0
        obtain ⟨hb12, hb3, hsz, hbl⟩ := hbox
        have HSZ := Lib.hid hsz
        clear hsz
        refine (wpIn_wide (n := 3)).1 ?_
        refine wpIn_rangeFunc_ownF rfl (by omega) (gf := 129) (lb := #[.pointer (some ⟨w.heap.size + 2, 0, none⟩)]) rfl trivial (enters_of Tryd.func129 (by kernel_rfl) rfl)
          (dof_stops 2 (by omega) (w.heap.size + 2) _ _ hct2 hb3) keepsBox_t (keepsBox_b _ _) (Below.refl _ _) (fun _ => rfl)
          (RIn w.heap.size (w.heap.size + 1) w) (ROut w) (RIn_own _ _ w _ hbl.size) (fun c => ROut_own w c _ hbl.size)
          ⟨⟨0, false, hb12, rfl, by simp, by omega, by omega⟩, hbl⟩
          (fun x => { tmps := #[S l, undef, .int .i64 0, .int .i64 0, S (c :: t), .bool b, .pointer (some ⟨w.heap.size, 0, none⟩), .pointer (some ⟨w.heap.size + 1, 0, none⟩), .int .i64 x.1, .tuple #[S (c :: t), .bool b], S l, .tuple #[S (c :: t), .bool b], S (c :: t), .bool b, S (c :: t), .bool false, .bool false, S (c :: t), .bool b, .bool false, .bool false, S (c :: t), .func (.func 129) #[] #[.pointer (some ⟨w.heap.size + 2, 0, none⟩)], .int .i64 x.1, undef, undef, undef, undef, undef, undef, undef, undef, undef, undef, undef, undef, undef, undef, undef, undef, undef, undef, undef, undef, undef, undef, undef, undef, undef, undef, undef, undef, undef, undef], defers := [] }) ?assign ?body ?done ?stop
        case assign =>
          intro l x W K hK
          gi_wp2
          exact hK
        case body =>
          rintro l' pre ⟨x, hx1, hx2⟩ W ⟨⟨m, o, ⟨hn, ho⟩, hst, hpos, hm1, hm2⟩, hbw⟩ hlt
          have hcn := hn.cell
          have hfn := hn.frozen
          have hco := ho.cell
          have hfo := ho.frozen
          dsimp only
          by_cases hneg : x = -1
          · subst hneg
            gi_wp2
            refine wpIn_goto ?_
            exact ⟨KeepsOthers.refl _, ⟨rfl, ⟨-1, hx1, hx2⟩, by simp, rfl⟩, hbw⟩
          · have hx0 : 0 ≤ x := by omega
            have hne : (x == -1) = false := by simpa using hneg
            have hnei : ¬ x = -1 := hneg
            have hst' : Hid (∀ pre' : List Int, stR pre' = (m, o) → stR (pre' ++ [x]) = stepR (m, o) x) := fun p h => by rw [stR_snoc, h]
            have hP : Hid (∀ y ∈ pre ++ [⟨x, hx1, hx2⟩], (0 : Int) ≤ y.1) := by
              intro y hy
              rcases List.mem_append.1 hy with h | h
              · exact hpos y h
              · simp at h; subst h; exact hx0
            have HST := Lib.hid hst
            clear hst hpos hneg
            cases o
            · by_cases hov : m < leastOf x
              · have hs2 : Hid (stR ((pre ++ [(⟨x, hx1, hx2⟩ : Dg)]).map (·.1)) = (m, true)) := by
                  show _ = _
                  rw [List.map_append, List.map_singleton, hst'.out _ HST.out, stepR, if_pos (.inr hov)]
                have hd : decide (m < (-9223372036854775808 + x).tdiv 10) = true := by simpa [leastOf] using hov
                gi_wp2
                exact ⟨KeepsOthers.setCell _ _ _, keepsBox_set (by omega), ⟨m, true, ⟨hn.other (by omega) _, ho.set _⟩, hs2.out, hP.out, hm1, hm2⟩, hbw.setCell (p := ⟨w.heap.size + 1, 0, none⟩) (by simp) _⟩
              · have hs2 : Hid (stR ((pre ++ [(⟨x, hx1, hx2⟩ : Dg)]).map (·.1)) = (m * 10 - x, false)) := by
                  show _ = _
                  rw [List.map_append, List.map_singleton, hst'.out _ HST.out, stepR, if_neg (by simp; omega)]
                have hd : decide (m < (-9223372036854775808 + x).tdiv 10) = false := by simpa [leastOf] using hov
                obtain ⟨hq1, hq2⟩ : -9223372036854775808 ≤ m * 10 - x ∧ m * 10 - x ≤ 0 := by
                  rw [leastOf_eq x hx0 hx2] at hov; omega
                clear hov
                have ho' := ho.set (.bool false)
                have hn' : Boxed (W.setCell ⟨w.heap.size + 1, 0, none⟩ (.bool false)) w.heap.size 3 (.int .i64 m) := hn.other (by omega) _
                have hcn' := hn'.cell
                have hfn' := hn'.frozen
                have hco' := ho'.cell
                gi_wp2
                exact ⟨(KeepsOthers.setCell _ _ _).trans (KeepsOthers.setCell _ _ _), keepsBox_t (keepsBox_set (by omega)) (keepsBox_set (by omega)), ⟨m * 10 - x, false, ⟨hn'.set _, ho'.other (by omega) _⟩, hs2.out, hP.out, hq1, hq2⟩, (hbw.setCell (p := ⟨w.heap.size + 1, 0, none⟩) (by simp) _).setCell (p := ⟨w.heap.size, 0, none⟩) (by simp) _⟩
            · have hs2 : Hid (stR ((pre ++ [(⟨x, hx1, hx2⟩ : Dg)]).map (·.1)) = (m, true)) := by
                show _ = _
                rw [List.map_append, List.map_singleton, hst'.out _ HST.out, stepR, if_pos (.inl rfl)]
              gi_wp2
              exact ⟨KeepsOthers.setCell _ _ _, keepsBox_set (by omega), ⟨m, true, ⟨hn.other (by omega) _, ho.set _⟩, hs2.out, hP.out, hm1, hm2⟩, hbw.setCell (p := ⟨w.heap.size + 1, 0, none⟩) (by simp) _⟩
        case done =>
          rintro D ys W hDs rfl ⟨⟨m, o, ⟨hn, ho⟩, hst, hpos, hm1, hm2⟩, hbw⟩ hK
          have hcn := hn.cell
          have hfn := hn.frozen
          have hco := ho.cell
          have hDw : w.heap.size ≤ D := by have := hbl.size; omega
          have hdig : ∀ y ∈ c :: t, 0 ≤ digV y := fun y hy => hpos (digD y) (by simp only [List.mem_map]; exact ⟨y, hy, rfl⟩)
          have hF : formB l = true := by
            rw [formB, hD'.out, hBl.out, HZ.out]
            simpa using hdig
          have hst2 : stR ((c :: t).map digV) = (m, o) := by rw [← hst, List.map_map]; rfl
          obtain ⟨hv1, hv2⟩ := stR_val ((c :: t).map digV) (by
            intro d hd
            simp only [List.mem_map] at hd
            obtain ⟨y, hy, rfl⟩ := hd
            exact ⟨hdig y hy, (digV_bd y).2⟩)
          rw [hst2] at hv1 hv2
          have hV : Hid (valT l = if b then valN ((c :: t).map digV) else -valN ((c :: t).map digV)) := by
            show _ = _; rw [valT, hBl.out, hD'.out]
          clear hN hE
          have hN := Lib.hid (show readN l = only (valT l) by rw [readN, hF]; rfl)
          have hE := Lib.hid (show readE l = code (valT l) by rw [readE, hF]; rfl)
          have hval : Hid (o = true ∧ fits (valT l) = false ∨ o = false ∧ (b = true ∧ valT l = m ∨ b = false ∧ valT l = -m)) := by
            show _ ∨ _
            rw [hV.out]
            generalize valN ((c :: t).map digV) = v at *
            cases o
            · refine .inr ⟨rfl, ?_⟩
              have := hv2 rfl
              dsimp only at this
              cases b <;> simp [this]
            · refine .inl ⟨rfl, ?_⟩
              have := hv1 rfl
              rw [not_fits]
              cases b <;> simp <;> omega
          clear hst hpos hF hst2 hv1 hv2 hdig hV
          have hB1 := hbw.trans (belowK_b (w := w) (Nat.le_refl _) W D _ (.deferred none) hDw hK rfl rfl)
          rcases hval.out with ⟨rfl, hnf⟩ | ⟨rfl, ⟨rfl, hvm⟩ | ⟨rfl, hvm⟩⟩
          · have hc12 := Lib.hid (code_not hnf)
            have ho0 := Lib.hid (only_not hnf)
            clear hnf hval
            go_wp2
            rw [jump_ret]
            refine ⟨by simp, .inl ⟨_, _, rfl, run_takeDeferred hK, ?_⟩⟩
            refine ⟨_, results_tmp2 rfl _ _ _, ?_, hB1⟩
            exact ret2 (by rw [hN.out, ho0.out]) (by rw [hE.out, hc12.out])
          · have hfit : fits (valT l) = true := by rw [hvm, fits_iff]; omega
            have hc12 := Lib.hid (code_fits hfit)
            have ho0 := Lib.hid (only_fits hfit)
            have HV := Lib.hid hvm
            clear hfit hvm hval
            go_wp2
            rw [jump_ret]
            refine ⟨by simp, .inl ⟨_, _, rfl, run_takeDeferred hK, ?_⟩⟩
            refine ⟨_, results_tmp2 rfl _ _ _, ?_, hB1⟩
            exact ret2 (by rw [hN.out, ho0.out, HV.out]) (by rw [hE.out, hc12.out])
          · by_cases hmm : m = -9223372036854775808
            · have hnf : fits (valT l) = false := by rw [hvm, not_fits]; omega
              have hc12 := Lib.hid (code_not hnf)
              have ho0 := Lib.hid (only_not hnf)
              have hmb : (m == -9223372036854775808) = true := by simpa using hmm
              have HM := Lib.hid hmm
              clear hmm hnf hvm hval
              go_wp2
              rw [jump_ret]
              refine ⟨by simp, .inl ⟨_, _, rfl, run_takeDeferred hK, ?_⟩⟩
              refine ⟨_, results_tmp2 rfl _ _ _, ?_, hB1⟩
              exact ret2 (by rw [hN.out, ho0.out]) (by rw [hE.out, hc12.out])
            · have hfit : fits (valT l) = true := by rw [hvm, fits_iff]; omega
              have hc12 := Lib.hid (code_fits hfit)
              have ho0 := Lib.hid (only_fits hfit)
              have hmb : (m == -9223372036854775808) = false := by simpa using hmm
              have hm3 : -9223372036854775808 < m := by omega
              have HV := Lib.hid hvm
              clear hfit hvm hval
              have hcs := (hn.set (.int .i64 (-m))).cell
              go_wp2
              rw [jump_ret]
              have hK2 := (KeepsOthers.setCell W ⟨w.heap.size, 0, none⟩ (.int .i64 (-m))).same D _ hK rfl
              refine ⟨by simp, .inl ⟨_, _, rfl, run_takeDeferred hK2, ?_⟩⟩
              refine ⟨_, results_tmp2 rfl _ _ _, ?_, (hbw.setCell (p := ⟨w.heap.size, 0, none⟩) (Nat.le_refl _) _).trans (belowK_b (w := w) (Nat.le_refl _) _ D _ (.deferred none) hDw hK2 rfl rfl)⟩
              exact ret2 (by rw [hN.out, ho0.out, HV.out]) (by rw [hE.out, hc12.out])
        case stop =>
          rintro D c' pre W hD hSp ⟨⟨rfl, x, hx, hx1⟩, hbw⟩ hK
          have hF : Hid (formB l = false) := by
            have hm := hSp.subset hx
            simp only [List.mem_map] at hm
            obtain ⟨y, hy, rfl⟩ := hm
            have : formB l = false := by
              simp only [formB, hD'.out, Bool.and_eq_false_iff]
              refine .inr ?_
              rw [List.all_eq_false]
              refine ⟨y, hy, ?_⟩
              have : digV y = -1 := hx1
              simp [this]
            exact this
          refine wpIn_goto ?_
          exact ⟨rfl, hF, hbw, .inr ⟨D, rfl, hK, by have := hbl.size; omega⟩, _, _, _, _, _, _, _, _, _, _, _, _, _, _, _, _, _, _, _, _, _, _, _, _, _, _, _, _, _, _, _, _, _, _, _, _, _, _, _, _, _, _, _, _, _, _, _, _, _, _, _, _, _, _, rfl⟩
      · have hF := Lib.hid (hFz hzz)
        rw [hzz] at hz
        clear hzz hFz
        go_wp2_with (first | ((with_reducible refine hcut.out.mono ?_); rintro e w' ⟨rfl, rfl⟩; rw [hD.out]) | ((with_reducible refine (hz.out _).mono ?_); rintro e w' ⟨rfl, rfl⟩))
        go_step3
        exact ⟨rfl, hF, ((Below.refl _ w).alloc (Nat.le_refl _) _).alloc (by simp) _, .inl rfl, _, _, _, _, _, _, _, _, _, _, _, _, _, _, _, _, _, _, _, _, _, _, _, _, _, _, _, _, _, _, _, _, _, _, _, _, _, _, _, _, _, _, _, _, _, _, _, _, _, _, _, _, _, _, rfl⟩
  · rintro ⟨t, d⟩ w2 ⟨hF, hb, hdf, s0, s1, s2, s3, s4, s5, s6, s7, s8, s9, s10, s11, s12, s13, s14, s15, s16, s17, s18, s19, s20, s21, s22, s23, s24, s25, s26, s27, s28, s29, s30, s31, s32, s33, s34, s35, s36, s37, s38, s39, s40, s41, s42, s43, s44, s45, s46, s47, s48, s49, s50, s51, s52, s53, rfl⟩
    go_wp2
    rw [jump_ret]
    have hr2 := hN.out
    have hr3 := hE.out
    rw [hF.out, if_neg (by simp)] at hr2 hr3
    rcases hdf with rfl | ⟨D, rfl, hK, hD⟩
    · refine ⟨_, results_tmp2 rfl _ _ _, ?_, hb⟩
      exact ret2 hr2.symm hr3.symm
    · refine ⟨by simp, .inl ⟨_, _, rfl, run_takeDeferred hK, ?_⟩⟩
      refine ⟨_, results_tmp2 rfl _ _ _, ?_, hb.trans (belowK_b (w := w) (Nat.le_refl _) w2 D _ _ hD hK rfl rfl)⟩
      exact ret2 hr2.symm hr3.symm
end Go.Proofs.YtkedifhlkiffoaaDoor
