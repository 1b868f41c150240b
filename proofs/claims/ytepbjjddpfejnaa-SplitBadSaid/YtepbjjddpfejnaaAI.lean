/-
  The pieces and the records of a script in two parts, the first one without a piece that is cut; the parts of a record that is taken are numbers.
-/
import Derived.Test.YtepbjjddpfejnaaAE
import Derived.Test.YtepbjjddpfejnaaAF
import Derived.Test.YtepbjjddpfejnaaAH
namespace Go.Proofs.Ytepbjjddpfejnaa
open Go.ChangeShapes Go.WideShapes Go.ChangeAt Go.RowKit
set_option linter.unusedVariables false
set_option linter.unusedSimpArgs false
theorem cnt_unique (zs : List Int) {n : Nat} (h1 : placeOf zs n = zs.length) (h2 : ∀ j, j < n → placeOf zs j < zs.length) : n = cnt zs := by
  rcases Nat.lt_trichotomy n (cnt zs) with h | h | h
  · have := place_lt zs h; omega
  · exact h
  · have := h2 _ h; rw [place_end] at this; omega
/-- No piece is cut. -/
def noCut (zs : List Int) : Prop := ∀ k, k < cnt zs → cutAt zs (placeOf zs k) = false
theorem noCut_of (zs : List Int) (h : ∀ k, k + 1 = cnt zs → cutAt zs (placeOf zs k) = false) : noCut zs := by
  intro k hk
  cases hc : cutAt zs (placeOf zs k)
  · rfl
  · have := h k (cut_last zs hk hc)
    rw [hc] at this; cases this
theorem long_left (a b : List Int) {k : Nat} (h : k < a.length) : longAt (a ++ b) k = longAt a k := by
  unfold longAt; rw [List.getElem?_append_left h]
theorem has_left (a b : List Int) {k : Nat} (h : k < a.length) (hc : cutAt a k = false) : hasAt (a ++ b) k = hasAt a k := by
  unfold cutAt at hc
  have hc := of_decide_eq_false hc
  unfold hasAt at hc ⊢
  rw [long_left a b h, List.length_append]
  omega
theorem cut_left (a b : List Int) {k : Nat} (h : k < a.length) (hc : cutAt a k = false) : cutAt (a ++ b) k = false := by
  have hh := has_left a b h hc
  unfold cutAt at hc ⊢
  rw [hh, long_left a b h]; exact hc
theorem place_left (a b : List Int) (hn : noCut a) : ∀ j, j ≤ cnt a → placeOf (a ++ b) j = placeOf a j := by
  intro j
  induction j with
  | zero => intro _; rfl
  | succ j ih =>
    intro hj
    rw [place_succ, place_succ, ih (by omega)]
    unfold nextAt
    rw [has_left a b (place_lt a (by omega)) (hn j (by omega))]
theorem long_right (a b : List Int) (k : Nat) : longAt (a ++ b) (a.length + k) = longAt b k := by
  unfold longAt; rw [List.getElem?_append_right (by omega), Nat.add_sub_cancel_left]
theorem has_right (a b : List Int) (k : Nat) : hasAt (a ++ b) (a.length + k) = hasAt b k := by
  unfold hasAt; rw [long_right, List.length_append]; congr 1; omega
theorem cut_right (a b : List Int) (k : Nat) : cutAt (a ++ b) (a.length + k) = cutAt b k := by
  unfold cutAt; rw [long_right, has_right]
theorem place_right (a b : List Int) (hn : noCut a) (j : Nat) : placeOf (a ++ b) (cnt a + j) = a.length + placeOf b j := by
  induction j with
  | zero => rw [Nat.add_zero, place_left a b hn _ (Nat.le_refl _), place_end]; rfl
  | succ j ih =>
    rw [← Nat.add_assoc, place_succ, ih, place_succ]
    unfold nextAt
    rw [has_right]; omega
theorem cnt_append (a b : List Int) (hn : noCut a) : cnt (a ++ b) = cnt a + cnt b := by
  refine (cnt_unique _ ?_ fun j hj => ?_).symm
  · rw [place_right a b hn, place_end, List.length_append]
  · rw [List.length_append]
    rcases Nat.lt_or_ge j (cnt a) with h | h
    · rw [place_left a b hn j (by omega)]
      have := place_lt a h; omega
    · obtain ⟨i, rfl⟩ : ∃ i, j = cnt a + i := ⟨j - cnt a, by omega⟩
      rw [place_right a b hn]
      have := place_lt b (show i < cnt b by omega); omega
/-- A piece further behind. -/
def Pc.up (d : Nat) (p : Pc) : Pc := ⟨p.at_ + d, p.bytes, p.cut⟩
theorem pcs_append (a b : List Int) (hn : noCut a) : pcsOf (a ++ b) = pcsOf a ++ (pcsOf b).map (Pc.up a.length) := by
  unfold pcsOf pcsTo
  rw [cnt_append a b hn, List.range_add, List.map_append, List.map_map, List.map_map]
  congr 1
  · apply List.map_congr_left
    intro j hj
    have hj : j < cnt a := by simpa using hj
    have hl := place_lt a hj
    rw [place_left a b hn j (by omega)]
    have hh := has_left a b hl (hn j hj)
    have hle := hasAt_le a _ hl
    unfold pcOf
    rw [hh, cut_left a b hl (hn j hj), hn j hj]
    congr 1
    unfold ck
    rw [List.drop_append_of_le_length (by omega), List.take_append_of_le_length (by simp; omega)]
  · apply List.map_congr_left
    intro j hj
    show pcOf (a ++ b) (placeOf (a ++ b) (cnt a + j)) = (pcOf b (placeOf b j)).up a.length
    rw [place_right a b hn]
    unfold pcOf Pc.up
    rw [has_right, cut_right]
    congr 1
    · show a.length + placeOf b j = placeOf b j + a.length
      omega
    · have e : List.drop (a.length + placeOf b j + 1) (a ++ b) = List.drop (placeOf b j + 1) b := by
        rw [show a.length + placeOf b j + 1 = a.length + (placeOf b j + 1) by omega, List.drop_append, List.drop_of_length_le (by omega), List.nil_append]
        congr 1
        omega
      unfold ck
      rw [e]
theorem recs_of_pcs (zs : List Int) : recsOf zs = (pcsOf zs).flatMap fun p => okRc (recOf p.bytes p.cut) := by
  unfold recsOf recsTo pcsOf pcsTo
  rw [List.flatMap_map]
  rfl
theorem recs_append (a b : List Int) (hn : noCut a) : recsOf (a ++ b) = recsOf a ++ recsOf b := by
  rw [recs_of_pcs, pcs_append a b hn, List.flatMap_append, List.flatMap_map, ← recs_of_pcs]
  congr 1
  rw [recs_of_pcs]
  rfl
/-- A record's parts are numbers. -/
def SelfR (r : Rc) : Prop := FloatKind.f64.format.order r.p r.p = some .eq ∧ FloatKind.f64.format.order r.q r.q = some .eq
theorem self_no : SelfR noRc := ⟨ord0, ord0⟩
theorem self_mark (zs : List Int) : SelfR (markRc zs) := ⟨ord0, ord0⟩
theorem self_event (zs : List Int) (hl : zs.length = 20) (h : ∀ z ∈ zs, isByte z) : SelfR (evtRc zs) := by
  have b5 := evV_four zs 12 hl h
  have b6 := evV_four zs 16 hl h
  have r5 := rep_of (part32 (evV zs 5)) (part32_bd _ b5.1 b5.2)
  have r6 := rep_of (part32 (evV zs 6)) (part32_bd _ b6.1 b6.2)
  exact ⟨order_eq r5 r5 rfl, order_eq r6 r6 rfl⟩
theorem take_self (zs : List Int) (h : ∀ z ∈ zs, isByte z) : SelfR (takeOf zs).1 := by
  unfold takeOf
  split
  · exact self_no
  · split
    · split
      · exact self_no
      · split
        · exact self_no
        · split
          · exact self_event zs (by omega) h
          · exact self_no
    · split
      · split
        · exact self_no
        · split
          · exact self_no
          · split
            · exact self_mark zs
            · exact self_no
      · exact self_no
theorem rec_self (zs : List Int) (c : Bool) (h : ∀ z ∈ zs, isByte z) : SelfR (recOf zs c).1 := by
  unfold recOf
  split
  · exact self_no
  · exact take_self zs h
theorem recs_self (zs : List Int) (h : ∀ z ∈ zs, isByte z) : ∀ r ∈ recsOf zs, SelfR r := by
  intro r hr
  unfold recsOf recsTo at hr
  obtain ⟨j, _, hj⟩ := List.mem_flatMap.1 hr
  unfold okRc at hj
  split at hj
  · obtain rfl := List.mem_singleton.1 hj
    exact rec_self _ _ (fun z hz => h z (List.mem_of_mem_drop (List.mem_of_mem_take hz)))
  · cases hj
theorem pcs_bytes (zs : List Int) (h : ∀ z ∈ zs, isByte z) : PcBytes (pcsOf zs) := by
  intro p hp z hz
  obtain ⟨j, _, rfl⟩ := List.mem_map.1 hp
  exact h z (List.mem_of_mem_drop (List.mem_of_mem_take hz))
theorem scr_bytes {s : Value} {zs : List Int} {w : World} (h : Scr s zs w) : ∀ z ∈ zs, isByte z := by
  rcases h with ⟨_, rfl⟩ | ⟨_, _, _, rfl⟩ | ⟨_, _, _, _, _, h⟩
  · intro z hz; cases hz
  · intro z hz; cases hz
  · exact h.2.2
/-- 'append(s, t...)' of a row of one's own to a row of one's own. -/
theorem wpList_append_row {P : Program} {w : World} {ops : Array Oper} {rest : List Oper} {o : Oper} {a : Act} {Q : Exit → Act → World → Prop} (hgd : o.guard = none) (s x : Operand) (t : TypeId)
    (ho : o.op = .call { callee := .builtin .append, args := #[s, x], argTypes := #[t, t] })
    (base : Nat) (e : TypeId) (i : TypeInfo) (z : Value) (size bytes : Nat) (ht : P.underlying t = some (.slice e)) (hi : P.info? e = some i) (hz : i.zero = some z) (hsize : i.size = size) (hby : i.bytes = bytes) (hzs : z.cells.size = size) (hsz : 0 < size)
    (v : Value) (n : Nat) (xs : List Value) (hs : a.eval s = v) (hown : w.ownsRow base e size v n xs) (base2 : Nat) (sv : Value) (m : Nat) (ys : List Value) (hx : a.eval x = sv) (hsv : w.ownsRow base2 e size sv m ys) (h1 : ∀ u ∈ ys, u.oneCell' = true)
    (h63 : n + m ≤ maxLen) (hbytes : (n + m) * bytes ≤ 140737488355328) (hbase : base ≤ w.heap.size)
    (h : ∀ v' w', w'.ownsRow base e size v' (n + m) (xs ++ ys) → w.grownBy w' v.ownBlock → (v = .slice none 0 0 ∨ ∃ g c, v' = .slice (some ⟨g, 0, none⟩) (n + m) c) → wpList P ops Q rest (a.put o.dst v') w') : wpList P ops Q (o :: rest) a w := by
  have hsome : ∀ {v' : Value} {w' : World}, w'.ownsRow base e size v' (n + m) (xs ++ ys) → (v' = .slice none 0 0 → v = .slice none 0 0) → (v = .slice none 0 0 ∨ ∃ g c, v' = .slice (some ⟨g, 0, none⟩) (n + m) c) := fun hr hn => by
    rcases hr.2 with ⟨e, _⟩ | ⟨g, c, _, e, _⟩
    · exact .inl (hn e)
    · exact .inr ⟨g, c, e⟩
  rcases hsv.2 with ⟨rfl, hm⟩ | ⟨g, cap, cur, rfl, _⟩
  · refine wpList_append_own_none hgd s x t ho base e i size ht hi v n xs hs hown hx ?_
    have hy : ys = [] := List.eq_nil_of_length_eq_zero (by rw [hsv.1, hm, Nat.zero_mul])
    subst hy
    subst hm
    have hr : w.ownsRow base e size v (n + 0) (xs ++ []) := by simpa using hown
    exact h v w hr ⟨rfl, rfl, rfl, Nat.le_refl _, fun _ _ _ => rfl⟩ (hsome hr id)
  · refine wpList_append_own w hgd s x t ho base e i z size bytes ht hi hz hsize hby hzs hsz v n xs hs hown ⟨g, 0, none⟩ m cap ys hx hsv.1 (hsv.cells rfl) h1 h63 hbytes hbase ?_
    intro v' w' hr hg hn
    exact h v' w' hr hg (hsome hr (fun e => (hn.1 e).1))
end Go.Proofs.Ytepbjjddpfejnaa
