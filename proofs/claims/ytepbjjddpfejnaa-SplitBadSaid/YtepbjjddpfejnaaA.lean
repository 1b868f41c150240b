/-
  What words of 64 bits stand for a whole number below 2^53, and that sums, differences, products, opposites, orders and cuts of such words are those of the numbers; no condition.
-/
import Derived.Laws.ComplexArith
namespace Go.Proofs.Ytepbjjddpfejnaa
set_option linter.unusedVariables false
open Ieee

/-- The number m with its sign. -/
def sg (s : Bool) (m : Nat) : Int := if s then -(m : Int) else m

/-- The word x stands for the whole number n. -/
def Rep (x : Nat) (n : Int) : Prop := ∃ (s : Bool) (m j : Nat), double.read x = .number s (m * 2 ^ j) (-(j : Int)) ∧ n = sg s m

theorem signed_eq (s : Bool) (m k : Nat) : signed s m k = sg s (m * 2 ^ k) := by
  unfold signed sg; rw [Nat.shiftLeft_eq]
theorem sg_mul (s t : Bool) (m n : Nat) : sg (s ^^ t) (m * n) = sg s m * sg t n := by
  cases s <;> cases t <;> simp [sg, Int.neg_mul, Int.mul_neg]
theorem sg_not (s : Bool) (m : Nat) : sg (!s) m = -sg s m := by cases s <;> simp [sg]
theorem sg_scale (s : Bool) (m k : Nat) : sg s (m * 2 ^ k) = sg s m * ((2 ^ k : Nat) : Int) := by
  cases s <;> simp [sg, Int.neg_mul]
theorem sg_abs (s : Bool) (m : Nat) : (sg s m).natAbs = m := by cases s <;> simp [sg]
theorem sg_of (n : Int) : sg (decide (n < 0)) n.natAbs = n := by
  unfold sg; by_cases h : n < 0 <;> simp [h] <;> omega
theorem sg_zero (s : Bool) : sg s 0 = 0 := by cases s <;> rfl

theorem cut_exact (s : Bool) (k d : Nat) (way : Toward) : way.cut s (k * 2 ^ d) d = k := by
  unfold Toward.cut
  by_cases hz : k = 0
  · subst hz
    simp
    cases way <;> simp
  · have hne : k * 2 ^ d ≠ 0 := by have := Nat.two_pow_pos d; exact Nat.mul_ne_zero hz (by omega)
    have hl : d ≤ (k * 2 ^ d).log2 := (Nat.le_log2 hne).2 (Nat.le_mul_of_pos_left _ (by omega))
    have hm : min d ((k * 2 ^ d).log2 + 2) = d := by omega
    have hp := Nat.two_pow_pos d
    simp only [hm, Nat.shiftLeft_eq, Nat.one_mul, Nat.mul_mod_left, Nat.mul_div_cancel _ hp]
    cases way <;> simp

theorem log2_scale (m j : Nat) (h : m ≠ 0) : (m * 2 ^ j).log2 = m.log2 + j := by
  have hp := Nat.two_pow_pos j
  have hne : m * 2 ^ j ≠ 0 := Nat.mul_ne_zero h (by omega)
  have h1 := Nat.log2_self_le h
  have h2 := @Nat.lt_log2_self m
  refine (Nat.log2_eq_iff hne).2 ⟨?_, ?_⟩
  · rw [Nat.pow_add]; exact Nat.mul_le_mul_right _ h1
  · rw [show m.log2 + j + 1 = (m.log2 + 1) + j by omega, Nat.pow_add]; exact Nat.mul_lt_mul_of_pos_right h2 hp

/-- Reading a word whose rung is that of a normal number. -/
theorem read_word (s : Bool) (q K : Nat) (h1 : 2 ^ 52 ≤ K) (h2 : K < 2 ^ 53) (hq : q < 2000) :
    double.read (double.word s (q * 2 ^ 52 + K)) = .number s K (-1074 + (q : Int)) := by
  have e1 : double.signWeight = 2 ^ 63 := rfl
  have e2 : double.binade = 2 ^ 52 := rfl
  have e3 : double.infRung = 2047 * 2 ^ 52 := rfl
  have e4 : double.leastPlace = -1074 := rfl
  have hw : double.word s (q * 2 ^ 52 + K) = s.toNat * 2 ^ 63 + (q * 2 ^ 52 + K) := by
    cases s <;> simp [Format.word, e1]
  have hs : (s.toNat = 0 ∧ s = false) ∨ (s.toNat = 1 ∧ s = true) := by cases s <;> simp
  unfold Format.read
  rw [hw, e1, e2, e3, e4]
  have r1 : (s.toNat * 2 ^ 63 + (q * 2 ^ 52 + K)) % 2 ^ 63 = q * 2 ^ 52 + K := by omega
  have r2 : ((s.toNat * 2 ^ 63 + (q * 2 ^ 52 + K)) / 2 ^ 63 % 2 == 1) = s := by
    rcases hs with ⟨a, b⟩ | ⟨a, b⟩ <;> rw [a, b] <;> simp <;> omega
  simp only [r1, r2]
  rw [if_neg (by omega), if_pos (by omega)]
  congr 1
  · omega
  · omega
theorem read_zero (s : Bool) : double.read (double.word s 0) = .number s 0 (-1074) := by cases s <;> decide +kernel

theorem rep_zero_of {x j : Nat} {s : Bool} (h : double.read x = .number s 0 (-(j : Int))) : Rep x (sg s 0) := ⟨s, 0, j, by rw [h, Nat.zero_mul], rfl⟩

/-- A whole number below 2^53, however it is written down, is written exactly. -/
theorem rep_write (s : Bool) (m J : Nat) (h : m < 2 ^ 53) : Rep (double.write (.number s (m * 2 ^ J) (-(J : Int)))) (sg s m) := by
  show Rep (double.nearest s (m * 2 ^ J) (-(J : Int))) (sg s m)
  by_cases hz : m = 0
  · subst hz
    simp only [Nat.zero_mul, Format.nearest, if_true]
    exact rep_zero_of (j := 1074) (read_zero s)
  · have hp := Nat.two_pow_pos J
    have hne : m * 2 ^ J ≠ 0 := Nat.mul_ne_zero hz (by omega)
    have hL : m.log2 ≤ 52 := by have := (Nat.log2_lt hz).2 h; omega
    have e2 : double.binade = 2 ^ 52 := rfl
    have e3 : double.infRung = 2047 * 2 ^ 52 := rfl
    have e4 : double.leastPlace = -1074 := rfl
    have e5 : double.fractionBits = 52 := rfl
    have k1 := Nat.log2_self_le hz
    have k2 := @Nat.lt_log2_self m
    unfold Format.nearest
    rw [if_neg hne]
    simp only [log2_scale m J hz, e2, e3, e4, e5]
    generalize hl : m.log2 = L at *
    have hlast : max (-(J : Int) + ((L + J : Nat) : Int) - ((52 : Nat) : Int)) (-1074) = (L : Int) - 52 := by omega
    rw [hlast]
    have hkept : Toward.even.cut s ((m * 2 ^ J) <<< (-(J : Int) - ((L : Int) - 52)).toNat) ((L : Int) - 52 - -(J : Int)).toNat = m * 2 ^ (52 - L) := by
      by_cases hc : J ≤ 52 - L
      · have a1 : (-(J : Int) - ((L : Int) - 52)).toNat = 52 - L - J := by omega
        have a2 : ((L : Int) - 52 - -(J : Int)).toNat = 0 := by omega
        rw [a1, a2, Nat.shiftLeft_eq, Nat.mul_assoc, ← Nat.pow_add, show J + (52 - L - J) = 52 - L by omega]
        have := cut_exact s (m * 2 ^ (52 - L)) 0 .even
        simpa using this
      · have a1 : (-(J : Int) - ((L : Int) - 52)).toNat = 0 := by omega
        have a2 : ((L : Int) - 52 - -(J : Int)).toNat = J - (52 - L) := by omega
        rw [a1, a2, Nat.shiftLeft_eq]
        have := cut_exact s (m * 2 ^ (52 - L)) (J - (52 - L)) .even
        rw [Nat.mul_assoc, ← Nat.pow_add, show 52 - L + (J - (52 - L)) = J by omega] at this
        simpa using this
    rw [hkept]
    have b1 : 2 ^ 52 ≤ m * 2 ^ (52 - L) := by
      have := Nat.mul_le_mul_right (2 ^ (52 - L)) k1
      rw [← Nat.pow_add, show L + (52 - L) = 52 by omega] at this; exact this
    have b2 : m * 2 ^ (52 - L) < 2 ^ 53 := by
      have := Nat.mul_lt_mul_of_pos_right k2 (Nat.two_pow_pos (52 - L))
      rw [← Nat.pow_add, show L + 1 + (52 - L) = 53 by omega] at this; exact this
    have b3 : ((L : Int) - 52 - -1074).toNat = L + 1022 := by omega
    rw [b3, Nat.min_eq_left (by omega)]
    refine ⟨s, m, 52 - L, ?_, rfl⟩
    have hpl : -1074 + ((L + 1022 : Nat) : Int) = -((52 - L : Nat) : Int) := by omega
    rw [read_word s (L + 1022) _ b1 b2 (by omega), hpl]

theorem rep_of (n : Int) (h : n.natAbs < 2 ^ 53) : Rep (floatOfInt .f64 n) n := by
  have := rep_write (decide (n < 0)) n.natAbs 0 h
  rw [sg_of] at this
  simpa [floatOfInt, FloatKind.nearest, FloatKind.encode, FloatKind.format] using this

theorem rep_mul {x y : Nat} {m n : Int} (hx : Rep x m) (hy : Rep y n) (h : (m * n).natAbs < 2 ^ 53) : ∃ r, floatBits .mul .f64 x y = some r ∧ Rep r (m * n) := by
  obtain ⟨s, a, i, h1, rfl⟩ := hx
  obtain ⟨t, b, j, h2, rfl⟩ := hy
  refine ⟨double.write (.number (s ^^ t) ((a * 2 ^ i) * (b * 2 ^ j)) (-(i : Int) + -(j : Int))), ?_, ?_⟩
  · simp [floatBits, FloatKind.format, Format.mul, h1, h2, Datum.product]
  · rw [show (a * 2 ^ i) * (b * 2 ^ j) = (a * b) * 2 ^ (i + j) by rw [Nat.pow_add]; ac_rfl, show -(i : Int) + -(j : Int) = -((i + j : Nat) : Int) by omega, ← sg_mul]
    refine rep_write _ _ _ ?_
    rw [← sg_mul, sg_abs] at h
    exact h

theorem rep_opposite {y : Nat} {n : Int} (hy : Rep y n) : ∃ (t : Bool) (b j : Nat), (double.read y).opposite = .number t (b * 2 ^ j) (-(j : Int)) ∧ -n = sg t b := by
  obtain ⟨t, b, j, h2, rfl⟩ := hy
  exact ⟨!t, b, j, by rw [h2]; rfl, (sg_not t b).symm⟩

theorem scale_up (s : Bool) (a i M : Nat) (h : i ≤ M) : signed s (a * 2 ^ i) (M - i) = sg s a * ((2 ^ M : Nat) : Int) := by
  rw [signed_eq, Nat.mul_assoc, ← Nat.pow_add, show i + (M - i) = M by omega, sg_scale]

theorem rep_sum (s t : Bool) (a b i j : Nat) (h : (sg s a + sg t b).natAbs < 2 ^ 53) :
    ∃ d, Datum.sum (.number s (a * 2 ^ i) (-(i : Int))) (.number t (b * 2 ^ j) (-(j : Int))) = some d ∧ Rep (double.write d) (sg s a + sg t b) := by
  refine ⟨_, rfl, ?_⟩
  have hb : min (-(i : Int)) (-(j : Int)) = -((max i j : Nat) : Int) := by omega
  have h1 : (-(i : Int) - min (-(i : Int)) (-(j : Int))).toNat = max i j - i := by omega
  have h2 : (-(j : Int) - min (-(i : Int)) (-(j : Int))).toNat = max i j - j := by omega
  simp only [h1, h2]
  rw [scale_up s a i _ (by omega), scale_up t b j _ (by omega), ← Int.add_mul, hb]
  generalize max i j = M
  generalize sg s a + sg t b = v at *
  have hp : (0 : Int) < ((2 ^ M : Nat) : Int) := by exact_mod_cast Nat.two_pow_pos M
  have ha : (v * ((2 ^ M : Nat) : Int)).natAbs = v.natAbs * 2 ^ M := by rw [Int.natAbs_mul]; rfl
  rw [ha]
  have hz : (v * ((2 ^ M : Nat) : Int) = 0) ↔ v = 0 := by
    constructor
    · intro e; rcases Int.mul_eq_zero.1 e with e | e <;> omega
    · intro e; rw [e]; simp
  have hn : decide (v * ((2 ^ M : Nat) : Int) < 0) = decide (v < 0) := by
    rw [decide_eq_decide]
    constructor
    · intro e; exact Int.neg_of_mul_neg_right (by rw [Int.mul_comm]; exact e) (by omega)
    · intro e; exact Int.mul_neg_of_neg_of_pos e hp
  by_cases e : v = 0
  · subst e
    have := rep_write (s && t) 0 M (by decide)
    rw [sg_zero] at this
    simpa using this
  · rw [if_neg (fun c => e (hz.1 c)), hn]
    have := rep_write (decide (v < 0)) v.natAbs M h
    rw [sg_of] at this
    exact this

theorem rep_add {x y : Nat} {m n : Int} (hx : Rep x m) (hy : Rep y n) (h : (m + n).natAbs < 2 ^ 53) : ∃ r, floatBits .add .f64 x y = some r ∧ Rep r (m + n) := by
  obtain ⟨s, a, i, h1, rfl⟩ := hx
  obtain ⟨t, b, j, h2, rfl⟩ := hy
  obtain ⟨d, hd, hr⟩ := rep_sum s t a b i j h
  exact ⟨_, by simp [floatBits, FloatKind.format, Format.add, h1, h2, hd], hr⟩
theorem rep_sub {x y : Nat} {m n : Int} (hx : Rep x m) (hy : Rep y n) (h : (m - n).natAbs < 2 ^ 53) : ∃ r, floatBits .sub .f64 x y = some r ∧ Rep r (m - n) := by
  obtain ⟨s, a, i, h1, rfl⟩ := hx
  obtain ⟨t, b, j, h2, e⟩ := rep_opposite hy
  rw [Int.sub_eq_add_neg, e] at h ⊢
  obtain ⟨d, hd, hr⟩ := rep_sum s t a b i j h
  exact ⟨_, by simp [floatBits, FloatKind.format, Format.sub, h1, h2, hd], hr⟩

theorem rep_order {x y : Nat} {m n : Int} (hx : Rep x m) (hy : Rep y n) : FloatKind.f64.format.order x y = some (compare m n) := by
  obtain ⟨s, a, i, h1, rfl⟩ := hx
  obtain ⟨t, b, j, h2, rfl⟩ := hy
  show (double.read x).order (double.read y) = _
  rw [h1, h2]
  simp only [Datum.order]
  have e1 : (-(i : Int) - min (-(i : Int)) (-(j : Int))).toNat = max i j - i := by omega
  have e2 : (-(j : Int) - min (-(i : Int)) (-(j : Int))).toNat = max i j - j := by omega
  rw [e1, e2, scale_up s a i _ (by omega), scale_up t b j _ (by omega)]
  have hp : (0 : Int) < ((2 ^ max i j : Nat) : Int) := by exact_mod_cast Nat.two_pow_pos _
  generalize sg s a = u
  generalize sg t b = v
  generalize ((2 ^ max i j : Nat) : Int) = p at hp
  congr 1
  have hlt : u * p < v * p ↔ u < v := Int.mul_lt_mul_right hp
  have heq : u * p = v * p ↔ u = v := ⟨fun e => Int.eq_of_mul_eq_mul_right (by omega) e, fun e => by rw [e]⟩
  simp only [compare, compareOfLessAndEq, hlt, heq]

theorem rep_toInt {x : Nat} {n : Int} (hx : Rep x n) (h : n.natAbs < 2 ^ 53) : floatToIntVal .f64 x .i64 = some n := by
  obtain ⟨s, a, i, h1, rfl⟩ := hx
  rw [sg_abs] at h
  have : (FloatKind.f64.decode x).toInt .zero = some (sg s a) := by
    show (double.read x).toInt .zero = _
    rw [h1]
    simp only [Datum.toInt, Datum.integral]
    have e1 : (-(i : Int)).toNat = 0 := by omega
    have e2 : (-(-(i : Int))).toNat = i := by omega
    rw [e1, e2, Nat.shiftLeft_zero, cut_exact, signed_eq]
    simp
  unfold floatToIntVal
  rw [this]
  have hb : -(2 ^ 53 : Int) < sg s a ∧ sg s a < 2 ^ 53 := by cases s <;> simp [sg] <;> omega
  show (if IntKind.i64.min ≤ sg s a ∧ sg s a ≤ IntKind.i64.max then some (sg s a) else none) = _
  rw [if_pos]
  have m1 : IntKind.i64.min = -2 ^ 63 := by decide
  have m2 : IntKind.i64.max = 2 ^ 63 - 1 := by decide
  rw [m1, m2]
  omega

theorem rep_neg {x : Nat} {n : Int} (hx : Rep x n) : Rep (Op.negFloat .f64 x) (-n) := by
  obtain ⟨s, a, i, h1, rfl⟩ := hx
  refine ⟨!s, a, i, ?_, (sg_not s a).symm⟩
  have e : Op.negFloat .f64 x = x ^^^ 2 ^ 63 := rfl
  have r1 : (x ^^^ 2 ^ 63) % 2 ^ 63 = x % 2 ^ 63 := by rw [Nat.xor_mod_two_pow]; simp
  have r2 : (x ^^^ 2 ^ 63) / 2 ^ 63 % 2 = 1 - x / 2 ^ 63 % 2 := by
    rw [Nat.xor_div_two_pow]
    have := @Nat.xor_mod_two_pow (x / 2 ^ 63) (2 ^ 63 / 2 ^ 63) 1
    rw [show (2 : Nat) ^ 1 = 2 from rfl] at this
    rw [this]
    rcases Nat.mod_two_eq_zero_or_one (x / 2 ^ 63) with q | q <;> rw [q] <;> rfl
  have key : ((x ^^^ 2 ^ 63) / 2 ^ 63 % 2 == 1) = !(x / 2 ^ 63 % 2 == 1) := by
    rw [r2]; rcases Nat.mod_two_eq_zero_or_one (x / 2 ^ 63) with q | q <;> rw [q] <;> rfl
  have hopp : double.read (x ^^^ 2 ^ 63) = (double.read x).opposite := by
    have e1 : double.signWeight = 2 ^ 63 := rfl
    unfold Format.read
    simp only [e1, r1, key]
    split
    · rfl
    · split
      · rfl
      · split <;> rfl
  rw [e, hopp, h1]
  rfl

/-- The product of two points of whole numbers, the first one turned to its conjugate. -/
theorem rep_product {p q r s : Nat} {x y u v : Int} (hp : Rep p x) (hq : Rep q y) (hr : Rep r u) (hs : Rep s v)
    (b1 : (x * u).natAbs < 2 ^ 51) (b2 : (y * v).natAbs < 2 ^ 51) (b3 : (x * v).natAbs < 2 ^ 51) (b4 : (y * u).natAbs < 2 ^ 51) :
    ∃ re im, cMulBits p (Op.negFloat .f64 q) r s = some (re, im) ∧ Rep re (x * u + y * v) ∧ Rep im (x * v - y * u) := by
  have hn := rep_neg hq
  obtain ⟨ac, h1, r1⟩ := rep_mul hp hr (by omega)
  obtain ⟨bd, h2, r2⟩ := rep_mul hn hs (by rw [Int.neg_mul, Int.natAbs_neg]; omega)
  rw [Int.neg_mul] at r2
  obtain ⟨re, h3, r3⟩ := rep_sub r1 r2 (by omega)
  obtain ⟨ad, h4, r4⟩ := rep_mul hp hs (by omega)
  obtain ⟨bc, h5, r5⟩ := rep_mul hn hr (by rw [Int.neg_mul, Int.natAbs_neg]; omega)
  rw [Int.neg_mul] at r5
  obtain ⟨im, h6, r6⟩ := rep_add r4 r5 (by omega)
  refine ⟨re, im, by simp [cMulBits, h1, h2, h3, h4, h5, h6], ?_, ?_⟩
  · rwa [Int.sub_neg] at r3
  · rwa [← Int.sub_eq_add_neg] at r6
end Go.Proofs.Ytepbjjddpfejnaa
