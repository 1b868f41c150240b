/-
  NumTexts of stage 1, at every input: the law's call returns true, for any text and any number; no condition.
-/
import Derived.Test.YtiekaiaekokepaaM
import Derived.Test.YtiekaiaekokepaaT
import Derived.ShutString
import Derived.ChangeOld
import Derived.Deep.DeepCutAuto
namespace Go.Proofs.Ytiekaiaekokepaa.numTexts
open Go.ChangeShapes Go.WideShapes Go.ChangeAt Go.RowKit
open Go.ChangeMaps (open_string shut_string)
set_option linter.unusedVariables false
theorem own : ownKnob Try.prog.godebug = none := by kernel_rfl
theorem laidOut : laidOutB Try.prog = true := by kernel_rfl
/-- The form, but for what the bytes are. -/
def form0 (l : List UInt8) : Bool := !(digs l).isEmpty && !zahead (below l) (digs l)
def isD (c : UInt8) : Bool := decide (0 ≤ digV c)
theorem formB_eq (l : List UInt8) : formB l = (form0 l && (digs l).all isD) := rfl
theorem readE_form (l : List UInt8) : formB l = (readE l != 11) := by
  unfold readE
  cases h : formB l
  · rfl
  · rw [if_pos rfl]
    cases hv : fits (valT l)
    · rw [code_not hv]; rfl
    · rw [code_fits hv]; rfl
theorem digs_snoc (x : UInt8) (r : List UInt8) (c : UInt8) : digs (x :: r ++ [c]) = digs (x :: r) ++ [c] ∧ below (x :: r ++ [c]) = below (x :: r) := by
  simp only [List.cons_append, digs, below]
  split <;> simp
theorem more (l : List UInt8) (k : Nat) (hk : k ≤ 9) (hf : formB l = true) (hv : valT l ≠ 0) :
    formB (l ++ [u8 (48 + (k : Int))]) = true ∧ valT (l ++ [u8 (48 + (k : Int))]) = (if below l then 10 * valT l - k else 10 * valT l + k) ∧ (below l = true ↔ valT l < 0) := by
  have hdk := digV_u8 k hk
  generalize u8 (48 + (k : Int)) = c at *
  cases l with
  | nil => simp [formB, digs] at hf
  | cons x r =>
    obtain ⟨e1, e2⟩ := digs_snoc x r c
    simp only [formB, Bool.and_eq_true, Bool.not_eq_true'] at hf
    obtain ⟨⟨hne, hz⟩, hall⟩ := hf
    have hall' : ∀ c ∈ digs (x :: r), 0 ≤ digV c := by simpa using hall
    have hneg := valN_neg _ (digs (x :: r)) rfl hall'
    unfold formB valT at *
    rw [e1, e2]
    generalize below (x :: r) = b at *
    cases hd : digs (x :: r) with
    | nil => simp [hd] at hne
    | cons d t =>
      rw [hd] at hz hall' hneg hv
      have h48 : d ≠ 48 := by
        intro e
        subst e
        have ht : t = [] := by cases b <;> simp [zahead] at hz; exact hz
        subst ht
        apply hv
        cases b <;> decide
      have hz2 : zahead b (d :: t ++ [c]) = false := by simp [zahead, h48]
      refine ⟨?_, ?_, ?_⟩
      · rw [hz2]
        have : (d :: t ++ [c]).all (fun c => decide (0 ≤ digV c)) = true := by
          simp only [List.all_eq_true, decide_eq_true_eq]
          intro y hy
          rcases List.mem_append.1 hy with hy | hy
          · exact hall' y hy
          · simp at hy; subst hy; omega
        rw [this]; rfl
      · rw [List.map_append, List.map_singleton, valN_snoc, hdk]
        generalize valN (List.map digV (d :: t)) = v at *
        cases b <;> simp <;> omega
      · generalize valN (List.map digV (d :: t)) = v at *
        cases b <;> simp at hv ⊢ <;> omega
/-- What reading a text, and reading it with a digit more, come to. -/
theorem two_reads (l : List UInt8) (k : Nat) (hk : k ≤ 9) :
    (readE l ≠ 12 ∨ readE (l ++ [u8 (48 + (k : Int))]) = 12) ∧
    (readE l = 0 → readN l ≠ 0 → -576460752303423488 ≤ readN l → readN l ≤ 576460752303423488 →
      readE (l ++ [u8 (48 + (k : Int))]) = 0 ∧ readN (l ++ [u8 (48 + (k : Int))]) = (if readN l < 0 then 10 * readN l - k else 10 * readN l + k)) := by
  cases hf : formB l
  · have : readE l = 11 := by unfold readE; rw [hf]; rfl
    rw [this]
    exact ⟨.inl (by decide), fun h => by cases h⟩
  · have hE : readE l = code (valT l) := by unfold readE; rw [hf]; rfl
    have hN : readN l = only (valT l) := by unfold readN; rw [hf]; rfl
    cases hv : fits (valT l)
    · rw [hE, hN, code_not hv]
      refine ⟨.inr ?_, fun h => by cases h⟩
      have hv' := (not_fits _).1 hv
      obtain ⟨g1, g2, g3⟩ := more l k hk hf (by omega)
      unfold readE
      rw [g1, if_pos rfl, g2]
      apply code_not
      rw [not_fits]
      split <;> omega
    · rw [hE, hN, code_fits hv, only_fits hv]
      refine ⟨.inl (by decide), fun _ h0 h1 h2 => ?_⟩
      obtain ⟨g1, g2, g3⟩ := more l k hk hf h0
      have hfit : fits (valT (l ++ [u8 (48 + (k : Int))])) = true := by
        rw [g2, fits_iff]; split <;> omega
      unfold readE readN
      rw [g1, if_pos rfl, if_pos rfl, code_fits hfit, only_fits hfit, g2]
      refine ⟨rfl, ?_⟩
      by_cases hb : valT l < 0
      · rw [if_pos hb, if_pos (g3.2 hb)]
      · rw [if_neg hb, if_neg (fun e => hb (g3.1 e))]
theorem text_digit (k : Nat) (hk : k ≤ 9) (w : World) : Calls Try.prog 17 #[.int .i64 (k : Int)] w fun e w' => e = .returned (S [u8 (48 + (k : Int))]) ∧ Below w.heap.size w w' := by
  have h := text_any k w (by rw [fits_iff]; omega)
  rw [str_textB, textB_eq, if_neg (by omega), Int.natAbs_natCast, dgt_last k (by omega), show (48 : Int) + (k : Int) % 10 = 48 + k by omega] at h
  exact h
theorem beq_nat (x : UInt8) (n : Nat) (h : n < 256) : ((x.toNat : Int) == (n : Int)) = (x == UInt8.ofNat n) := by
  rw [Bool.eq_iff_iff]
  simp only [beq_iff_eq]
  constructor
  · intro e
    apply UInt8.toNat_inj.1
    rw [UInt8.toNat_ofNat']; omega
  · intro e
    rw [e, UInt8.toNat_ofNat']; omega
theorem beq45 (x : UInt8) : ((x.toNat : Int) == 45) = (x == 45) := beq_nat x 45 (by decide)
theorem beq48 (x : UInt8) : ((x.toNat : Int) == 48) = (x == 48) := beq_nat x 48 (by decide)
theorem tail_any (x : UInt8) (r : List UInt8) : (⟨(x :: r).toArray⟩ : ByteArray).extract 1 (r.length + 1) = ⟨r.toArray⟩ := by
  apply ByteArray.ext
  rw [ByteArray.data_extract]
  apply Array.ext'
  simp
theorem str_eq {s t : ByteArray} (h : s = t) : Value.string s = .string t := by rw [h]
/-- The first j bytes are digits. -/
def allTo (s : ByteArray) (j : Nat) : Bool := (s.data.toList.take j).all isD
theorem allTo_succ (s : ByteArray) (j : Nat) (h : j < s.size) : allTo s (j + 1) = (allTo s j && isD s[j]) := by
  unfold allTo
  rw [List.take_succ_eq_append_getElem (by simpa using h), List.all_append]
  simp
  rfl
theorem allTo_full (s : ByteArray) : allTo s s.size = s.data.toList.all isD := by
  unfold allTo; rw [List.take_of_length_le (by simp)]
theorem isD_iff (c : UInt8) : isD c = (decide ((48 : Int) ≤ c.toNat) && decide ((c.toNat : Int) ≤ 57)) := by
  unfold isD digV
  split
  · rename_i h
    simp; omega
  · rename_i h
    simp; omega
theorem cat_eq (l : List UInt8) (c : UInt8) : ((⟨l.toArray⟩ : ByteArray) ++ (⟨#[c]⟩ : ByteArray)) = ⟨(l ++ [c]).toArray⟩ := by
  apply ByteArray.ext
  rw [ByteArray.data_append]
  simp
theorem read_cat (l : List UInt8) (c : UInt8) (w : World) (hl : l.length ≤ 100) :
    Calls Try.prog 15 #[.string ((⟨l.toArray⟩ : ByteArray) ++ (⟨#[c]⟩ : ByteArray))] w fun e w' => e = .returned (.tuple #[.int .i64 (readN (l ++ [c])), .int .i64 (readE (l ++ [c]))]) ∧ Below w.heap.size w w' := by
  rw [cat_eq]
  exact read_any (l ++ [c]) w (by simp; omega)
set_option maxRecDepth 100000 in
set_option maxHeartbeats 4000000 in
theorem texts_short (l : List UInt8) (k : Nat) (w : World) (hl : l.length ≤ 100) (hk : k ≤ 9) :
    Calls Try.prog 7 #[S l, .int .i64 (k : Int)] w fun e w' => e = .returned (.bool true) ∧ Below w.heap.size w w' := by
  have hlen : decide ((100 : Int) < l.length) = false := by simp; omega
  have hk9 : decide ((9 : Int) < k) = false := by simp; omega
  have hk0 : decide ((k : Int) < 0) = false := by simp
  go_enter Try.func7, Try.ntmps7
  go_upto_region 4 with fail
  go_cut [32] (fun t wx => t = .bool (below l) ∧ wx = w)
  case first =>
    cases l with
    | nil =>
      go_wp2_with fail
      go_meet
      exact ⟨rfl, rfl⟩
    | cons x r =>
      go_wp2_with fail
      go_meet
      exact ⟨congrArg Value.bool (beq45 x), rfl⟩
  case rest =>
    obtain ⟨rfl, rfl⟩ := hcut
    go_upto_if 32 with fail
    go_cut [5] (fun t wx => t = S (digs l) ∧ wx = wc)
    case first =>
      cases hb : below l
      · have hd : digs l = l := by
          cases l with
          | nil => rfl
          | cons x r => simp [below] at hb; simp [digs, hb]
        have hd := Lib.hid hd
        go_wp2_with fail
        go_meet
        exact ⟨by rw [hd.out], rfl⟩
      · obtain ⟨r, rfl⟩ : ∃ r, l = 45 :: r := by
          cases l with
          | nil => cases hb
          | cons x r => simp [below] at hb; exact ⟨r, by rw [hb]⟩
        have hl1 : r.length + 1 ≤ 100 := by simpa using hl
        go_wp2_with fail
        go_meet
        exact ⟨str_eq (tail_any 45 r), rfl⟩
    case rest =>
      obtain ⟨rfl, rfl⟩ := hcut
      obtain ⟨ds, hds⟩ : ∃ ds, digs l = ds := ⟨_, rfl⟩
      rw [hds]
      have HDS := Lib.hid hds
      have hdl : ds.length ≤ 100 := by rw [← hds]; exact Nat.le_trans (digs_len l) hl
      have hf0 : Hid (form0 l = (!ds.isEmpty && !zahead (below l) ds)) := by show _ = _; rw [form0, hds]
      have hl48 : Hid (∀ d t, ds = d :: t → d = 48 → (l.toArray.toList == [48]) = !zahead (below l) ds) := by
        intro d t e e'
        subst e'
        rw [e, zahead]
        cases l with
        | nil => rw [← hds] at e; simp [digs] at e
        | cons x r =>
          cases hx : x == 45
          · have hd : digs (x :: r) = x :: r := by simp [digs, hx]
            rw [hd] at hds
            rw [e] at hds
            cases hds
            simp [below]
          · obtain rfl : x = 45 := by simpa using hx
            simp [below]
      have hFB : Hid (formB l = (form0 l && ds.all isD)) := by show _ = _; rw [formB_eq, hds]
      clear hds
      generalize form0 l = f0 at *
      go_upto_region 6 with fail
      go_cut [6] (fun t wx => t = .bool f0 ∧ wx = wc)
      case first =>
        cases ds with
        | nil =>
          go_wp2_with fail
          go_meet
          exact ⟨by rw [hf0.out]; rfl, rfl⟩
        | cons d t =>
          by_cases h48 : d = 48
          · have := hl48.out d t rfl h48
            subst h48
            have H := Lib.hid this
            clear this
            go_wp2_with fail
            all_goals first
              | (have hx : ¬ (((48 : UInt8).toNat : Int) = 48) := by assumption
                 exact absurd rfl hx)
              | (go_meet
                 exact ⟨congrArg Value.bool (by rw [hf0.out, ← H.out]; rfl), rfl⟩)
          · have hb : ((d.toNat : Int) == 48) = false := by rw [beq48]; simpa using h48
            have hb2 : ((d.toNat : Int) != 48) = true := by simpa using hb
            have H48 := Lib.hid h48
            clear h48
            go_wp2_with fail
            all_goals first
              | (have hx : (d.toNat : Int) = 48 := by assumption
                 rw [hx] at hb; cases hb)
              | (go_meet
                 exact ⟨congrArg Value.bool (by rw [hf0.out]; simp [zahead, H48.out]), rfl⟩)
      case rest =>
        obtain ⟨rfl, rfl⟩ := hcut
        obtain ⟨s, hs⟩ : ∃ s : ByteArray, s = ⟨ds.toArray⟩ := ⟨_, rfl⟩
        rw [show S ds = .string s by rw [hs]]
        have hsz : s.size ≤ 100 := by rw [hs]; simpa [ByteArray.size] using hdl
        have hsl : Hid (s.data.toList = ds) := by show _ = _; rw [hs]
        clear hs hl48 hf0 hdl
        go_wp2_with fail
        go_loop [6, 7] (fun f i => ∃ j : Nat, j ≤ s.size ∧ i = .int .i64 j ∧ f = .bool (f0 && allTo s j)) (fun _ i => s.size - (intOf i).toNat)
        case atStart => exact ⟨0, Nat.zero_le _, rfl, by simp [allTo]⟩
        case round =>
          obtain ⟨j, hj, rfl, rfl⟩ := hrel
          by_cases hlt : j < s.size
          · have hst := Lib.hid (allTo_succ s j hlt)
            generalize allTo s j = aj at *
            cases hfa : (f0 && aj)
            · have HF : Hid ((f0 && allTo s (j + 1)) = false) := by show _ = _; rw [hst.out, ← Bool.and_assoc, hfa]; rfl
              go_wp2_with fail
              exact ⟨⟨j + 1, by omega, by go_num, by rw [HF.out]⟩, by simp [intOf]; omega⟩
            · have HF : Hid ((f0 && allTo s (j + 1)) = (decide ((48 : Int) ≤ s[j].toNat) && decide ((s[j].toNat : Int) ≤ 57))) := by
                show _ = _; rw [hst.out, ← Bool.and_assoc, hfa, isD_iff]; rfl
              by_cases h48 : (48 : Int) ≤ s[j].toNat
              · have g48 : decide ((48 : Int) ≤ s[j].toNat) = true := by simpa using h48
                by_cases h57 : (s[j].toNat : Int) ≤ 57
                · have g57 : decide ((s[j].toNat : Int) ≤ 57) = true := by simpa using h57
                  rw [g48, g57] at HF
                  go_wp2_with fail
                  exact ⟨⟨j + 1, by omega, by go_num, by rw [HF.out]; rfl⟩, by simp [intOf]; omega⟩
                · have g57 : decide ((s[j].toNat : Int) ≤ 57) = false := by simpa using h57
                  rw [g48, g57] at HF
                  go_wp2_with fail
                  exact ⟨⟨j + 1, by omega, by go_num, by rw [HF.out]; rfl⟩, by simp [intOf]; omega⟩
              · have g48 : decide ((48 : Int) ≤ s[j].toNat) = false := by simpa using h48
                rw [g48] at HF
                go_wp2_with fail
                exact ⟨⟨j + 1, by omega, by go_num, by rw [HF.out]; rfl⟩, by simp [intOf]; omega⟩
          · obtain rfl : j = s.size := by omega
            rw [allTo_full, hsl.out, ← hFB.out, readE_form]
            have hR := Lib.hid (read_any l wc (by omega))
            have h2 := Lib.hid (two_reads l k hk)
            have hR2 := Lib.hid (fun w => read_cat l (u8 (48 + (k : Int))) w hl)
            have hT := Lib.hid (fun w => text_digit k hk w)
            generalize readN l = rn at *
            generalize readE l = re at *
            generalize readN (l ++ [u8 (48 + (k : Int))]) = fn at *
            generalize readE (l ++ [u8 (48 + (k : Int))]) = fe at *
            generalize u8 (48 + (k : Int)) = c at *
            clear HDS hFB hsl
            go_wp2_with fail
            (with_reducible refine hR.out.mono ?_)
            rintro e v1 ⟨rfl, hb1⟩
            go_upto_if 74 with fail
            go_cut [] (fun wx => wx = v1)
            case first =>
              by_cases h11 : re = 11
              · subst h11
                go_wp2_with fail
                go_meet
                rfl
              · have g11 : (re != 11) = true := by simpa using h11
                go_wp2_with fail
                go_meet
                rfl
            case rest =>
              obtain rfl := hcut
              go_wp2_with fail
              (with_reducible refine (hT.out _).mono ?_)
              rintro e v2 ⟨rfl, hb2⟩
              go_wp2_with fail
              (with_reducible refine (hR2.out _).mono ?_)
              rintro e v3 ⟨rfl, hb3⟩
              have hbl : Below _ _ v3 := hb1.trans ((hb2.mono hb1.size).trans (hb3.mono (Nat.le_trans hb1.size hb2.size)))
              clear hb1 hb2 hb3 hR hR2 hT
              obtain ⟨h12, hok⟩ := h2.out
              have hok := Lib.hid hok
              clear h2
              by_cases c1 : re = 0
              · subst c1
                by_cases c2 : rn = 0
                · subst c2
                  go_wp2_with fail
                  (with_reducible refine (wakes_any _).mono ?_)
                  rintro e v4 ⟨rfl, hb4⟩
                  go_wp2_with fail
                  go_ret
                  exact ⟨rfl, hbl.trans (hb4.mono hbl.size)⟩
                · have g2 : (rn == 0) = false := by simpa using c2
                  by_cases c3 : 576460752303423488 < rn
                  · have g3 : decide ((576460752303423488 : Int) < rn) = true := by simpa using c3
                    go_wp2_with fail
                    (with_reducible refine (wakes_any _).mono ?_)
                    rintro e v4 ⟨rfl, hb4⟩
                    go_wp2_with fail
                    go_ret
                    exact ⟨rfl, hbl.trans (hb4.mono hbl.size)⟩
                  · have g3 : decide ((576460752303423488 : Int) < rn) = false := by simpa using c3
                    by_cases c4 : rn < -576460752303423488
                    · have g4 : decide (rn < (-576460752303423488 : Int)) = true := by simpa using c4
                      go_wp2_with fail
                      (with_reducible refine (wakes_any _).mono ?_)
                      rintro e v4 ⟨rfl, hb4⟩
                      go_wp2_with fail
                      go_ret
                      exact ⟨rfl, hbl.trans (hb4.mono hbl.size)⟩
                    · have g4 : decide (rn < (-576460752303423488 : Int)) = false := by simpa using c4
                      obtain ⟨rfl, hfn⟩ := hok.out rfl c2 (by omega) (by omega)
                      have r1 : -576460752303423488 ≤ rn := by omega
                      have r2 : rn ≤ 576460752303423488 := by omega
                      by_cases c5 : rn < 0
                      · rw [if_pos c5] at hfn
                        have g5 : (fn == 10 * rn - k) = true := by simpa using hfn
                        have g6 : decide (rn < 0) = true := by simpa using c5
                        clear hfn
                        go_wp2_with fail
                        (with_reducible refine (wakes_any _).mono ?_)
                        rintro e v4 ⟨rfl, hb4⟩
                        go_wp2_with fail
                        go_ret
                        exact ⟨rfl, hbl.trans (hb4.mono hbl.size)⟩
                      · rw [if_neg c5] at hfn
                        have g5 : (fn == 10 * rn + k) = true := by simpa using hfn
                        have g6 : decide (rn < 0) = false := by simpa using c5
                        clear hfn
                        go_wp2_with fail
                        (with_reducible refine (wakes_any _).mono ?_)
                        rintro e v4 ⟨rfl, hb4⟩
                        go_wp2_with fail
                        go_ret
                        exact ⟨rfl, hbl.trans (hb4.mono hbl.size)⟩
              · have g1 : (re != 0) = true := by simpa using c1
                rcases h12 with h12 | h12
                · have g12 : (re != 12) = true := by simpa using h12
                  go_wp2_with fail
                  (with_reducible refine (wakes_any _).mono ?_)
                  rintro e v4 ⟨rfl, hb4⟩
                  go_wp2_with fail
                  go_ret
                  exact ⟨rfl, hbl.trans (hb4.mono hbl.size)⟩
                · subst h12
                  by_cases g : re = 12
                  · have g12 : (re != 12) = false := by simpa using g
                    have G := Lib.hid g
                    clear g
                    go_wp2_with fail
                    (with_reducible refine (wakes_any _).mono ?_)
                    rintro e v4 ⟨rfl, hb4⟩
                    go_wp2_with fail
                    go_ret
                    exact ⟨rfl, hbl.trans (hb4.mono hbl.size)⟩
                  · have g12 : (re != 12) = true := by simpa using g
                    go_wp2_with fail
                    (with_reducible refine (wakes_any _).mono ?_)
                    rintro e v4 ⟨rfl, hb4⟩
                    go_wp2_with fail
                    go_ret
                    exact ⟨rfl, hbl.trans (hb4.mono hbl.size)⟩

set_option maxRecDepth 100000 in
set_option maxHeartbeats 4000000 in
theorem texts_out (l : List UInt8) (k : Int) (w : World) (hl : l.length ≤ maxLen) (hk : 100 < l.length ∨ k < 0 ∨ 9 < k) :
    Calls Try.prog 7 #[S l, .int .i64 k] w fun e w' => e = .returned (.bool true) ∧ Below w.heap.size w w' := by
  unfold maxLen at hl
  by_cases h1 : 100 < l.length
  · have g1 : decide ((100 : Int) < l.length) = true := by simp; omega
    go_enter Try.func7, Try.ntmps7
    go_wp2_with fail
    (with_reducible refine (wakes_any _).mono ?_)
    rintro e w' ⟨rfl, hbl⟩
    go_wp2
    go_ret
    exact ⟨rfl, hbl⟩
  · have g1 : decide ((100 : Int) < l.length) = false := by simp; omega
    by_cases h2 : k < 0
    · have g2 : decide (k < 0) = true := by simpa using h2
      go_enter Try.func7, Try.ntmps7
      go_wp2_with fail
      (with_reducible refine (wakes_any _).mono ?_)
      rintro e w' ⟨rfl, hbl⟩
      go_wp2
      go_ret
      exact ⟨rfl, hbl⟩
    · have g2 : decide (k < 0) = false := by simpa using h2
      have g3 : decide (9 < k) = true := by simp; omega
      go_enter Try.func7, Try.ntmps7
      go_wp2_with fail
      (with_reducible refine (wakes_any _).mono ?_)
      rintro e w' ⟨rfl, hbl⟩
      go_wp2
      go_ret
      exact ⟨rfl, hbl⟩
theorem walk (s : ByteArray) (k : Int) (w : World) (w0 : s.size ≤ maxLen) (w1 : (Lit.int .i64 k).wf = true) :
    Calls Try.prog 7 #[.string s, .int .i64 k] w fun e w' => e = .returned (.bool true) ∧ Below w.heap.size w w' := by
  have hs : (.string s : Value) = S s.data.toList := rfl
  have hsz : s.data.toList.length = s.size := by simp
  rw [hs]
  by_cases hl : s.data.toList.length ≤ 100 ∧ 0 ≤ k ∧ k ≤ 9
  · obtain ⟨n, rfl⟩ := Int.eq_ofNat_of_zero_le hl.2.1
    exact texts_short _ n w hl.1 (by omega)
  · exact texts_out _ k w (by omega) (by omega)
set_option maxRecDepth 100000 in
theorem lifted (os : Os) (started : os.Started) (H : Type) (enc : TypeId × Value → H) :
    ReturnsInHanded {} Try.checked os 7 .any (Rows.numTextsSpec.pre6 enc Try.prog Try.f7 Rows.numTextsRow.domain false) (Rows.numTextsSpec.post enc Try.prog Try.f7 false true false false) := by
  refine returnsInHanded_of_change (C := Try.checked) own started (by kernel_rfl) Try.func7
    (ChangeSpec.witness6 (enc := enc) (C := Try.checked) false ⟨#[], #[.string ⟨#[]⟩, .int .i64 0], []⟩ 8 (by kernel_rfl) (by kernel_rfl) (by kernel_rfl) (by kernel_rfl)) ?_
  intro W base args ds gs before hval0 hW hcnd _
  have hval : ∀ (j : Nat) t v, Try.f7.params[j]? = some t → args[j]? = some v → Value.okWide Try.prog W .any base t v := hval0
  have hW' := hW
  obtain ⟨p, q, hA0, hV, rfl, hfz, hnd⟩ := hW
  have hA : DataW.TrodAll enc Try.prog W 0 (fun _ => true) true Try.f7.params.toList args.toList ds p := hA0
  rw [Try.params7] at hA hval
  obtain ⟨v0, vs0, d0, ds0, p0, q0, hargs, rfl, rfl, h0, r0⟩ := trodAll_cons hA
  obtain ⟨v1, vs1, d1, ds1, p1, q1, rfl, rfl, rfl, h1, r1⟩ := trodAll_cons r0
  obtain ⟨rfl, rfl, rfl⟩ := trodAll_nil r1
  obtain rfl : args = #[v0, v1] := by cases args; simp_all
  obtain ⟨rfl, rfl⟩ := trodVars_none hV
  obtain ⟨a0, rfl, rfl, rfl, w0⟩ := open_string Try.underlying9 (hval 0 9 v0 rfl rfl) h0
  obtain ⟨a1, rfl, rfl, rfl, w1⟩ := open_int Try.underlying3 (hval 1 3 v1 rfl rfl) h1
  clear hA0 hval0
  refine (walk a0 a1 W w0 w1).mono fun e W' ⟨he, bel⟩ => ?_
  subst he
  exact ⟨_, rfl, _, _, _, [], _, [], hW', trodAll_mk1 (shut_bool Try.underlying4 _), (trodAll_cons_mk (shut_string Try.underlying9 w0) (trodAll_cons_mk (shut_int Try.underlying3 w1) trodAll_mk0)), rfl, bel.frame _, fun h => by cases h⟩

theorem over : Rows.numTextsRow.holds Try.pinned (OpenSpec.ofChange Rows.numTextsSpec) :=
  OpenClaim.holds_of_wide 7 Try.f7 rfl rfl rfl rfl rfl rfl rfl ⟨rfl, rfl, rfl, rfl, rfl⟩ rfl rfl rfl rfl rfl (by kernel_rfl) Try.func7 (by kernel_rfl)
    (of_decide_eq_true (by kernel_rfl)) (by unfold Func.isWrapper; first | (rw [if_pos (by decide +kernel)]; kernel_rfl) | (rw [if_neg (by decide +kernel)]; exact ⟨rfl, rfl⟩))
    (fun os started H enc _ => lifted os started H enc)

theorem proved : Rows.NumTextsSaid := over
#print axioms proved
end Go.Proofs.Ytiekaiaekokepaa.numTexts
