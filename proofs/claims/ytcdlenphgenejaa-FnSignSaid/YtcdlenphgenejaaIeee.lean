/-
  Floats of 64 bits: sums and quarters are near; what floatOf tells of a surd that is far from 0.
-/
import Derived.Test.YtcdlenphgenejaaSurdMathB
import Ieee.Arith
namespace Go.Proofs.Ytcdlenphgenejaa
set_option maxRecDepth 20000
set_option linter.unusedVariables false
set_option linter.unusedSimpArgs false
open Ieee

theorem dbl_least : double.leastPlace = -1074 := by decide
theorem dbl_binade : double.binade = 4503599627370496 := by decide
theorem dbl_inf : double.infRung = 9218868437227405312 := by decide
theorem dbl_sign : double.signWeight = 9223372036854775808 := by decide
theorem dbl_frac : double.fractionBits = 52 := rfl
theorem read_word (neg : Bool) (rung : Nat) (h1 : 4503599627370496 ≤ rung) (h2 : rung < 9218868437227405312) :
    double.read (double.word neg rung) = .number neg (4503599627370496 + rung % 4503599627370496) (-1074 + ((rung / 4503599627370496 - 1 : Nat) : Int)) := by
  unfold Format.read Format.word
  rw [dbl_least, dbl_binade, dbl_inf, dbl_sign]
  have e1 : (if neg = true then 9223372036854775808 + rung else rung) % 9223372036854775808 = rung := by cases neg <;> simp <;> omega
  have e2 : ((if neg = true then 9223372036854775808 + rung else rung) / 9223372036854775808 % 2 == 1) = neg := by
    cases neg
    · have : rung / 9223372036854775808 = 0 := by omega
      simp [this]
    · have : (9223372036854775808 + rung) / 9223372036854775808 = 1 := by omega
      simp [this]
  simp only [e1, e2]
  rw [if_neg (by omega), if_pos h2]
theorem read_zero (neg : Bool) : double.read (double.word neg 0) = .number neg 0 (-1074) := by cases neg <;> decide

/-- The nearest whole number: below, above, or the same where nothing is left over. -/
theorem cut_even (neg : Bool) (n drop : Nat) (h : drop ≤ n.log2 + 2) : ∃ k, Toward.even.cut neg n drop = k ∧ (k = n / 2 ^ drop ∨ k = n / 2 ^ drop + 1) ∧ (n % 2 ^ drop = 0 → k = n / 2 ^ drop) := by
  refine ⟨_, rfl, ?_⟩
  unfold Toward.cut
  rw [Nat.min_eq_left h, Nat.shiftLeft_eq, Nat.one_mul]
  have hp : 0 < 2 ^ drop := Nat.two_pow_pos drop
  generalize 2 ^ drop = g at *
  simp only
  refine ⟨?_, fun h0 => ?_⟩
  · cases (decide (g < 2 * (n % g)) || (g == 2 * (n % g) && n / g % 2 == 1)) <;> simp
  · rw [h0]
    have : decide (g < 2 * 0) = false := by simp
    have e : (g == 2 * 0) = false := by simp; omega
    rw [this, e]; simp
theorem near (neg : Bool) (mag p : Nat) (hm : 0 < mag) (h1 : 52 ≤ p + mag.log2) (h2 : p + mag.log2 < 1084) :
    ∃ (m : Nat) (e : Nat) (k : Nat), double.read (double.nearest neg mag ((p : Int) - 1074)) = .number neg m ((e : Int) - 1074) ∧ m * 2 ^ e = k * 2 ^ (p + mag.log2 - 52) ∧
      (k * 2 ^ (p + mag.log2 - 52) ≤ mag * 2 ^ p + 2 ^ (p + mag.log2 - 52) ∧ mag * 2 ^ p ≤ k * 2 ^ (p + mag.log2 - 52) + 2 ^ (p + mag.log2 - 52)) ∧
      (∀ c : Nat, p + mag.log2 - 52 ≤ c → 2 ^ c ∣ mag * 2 ^ p → k * 2 ^ (p + mag.log2 - 52) = mag * 2 ^ p) := by
  have l1 : 2 ^ mag.log2 ≤ mag := Nat.log2_self_le (by omega)
  have l2 : mag < 2 ^ (mag.log2 + 1) := Nat.lt_log2_self
  obtain ⟨L, hL⟩ : ∃ L, L = mag.log2 := ⟨_, rfl⟩
  have hq : ∃ q, q = p + L - 52 := ⟨_, rfl⟩
  obtain ⟨q, hq⟩ := hq
  rw [← hL] at l1 l2 h1 h2 ⊢
  rw [← hq]
  have hlast : max ((p : Int) - 1074 + (mag.log2 : Int) - (double.fractionBits : Nat)) (-1074) = (q : Int) - 1074 := by
    rw [dbl_frac, ← hL]; omega
  have hn : double.nearest neg mag ((p : Int) - 1074) = double.word neg (min (q * 4503599627370496 + Toward.even.cut neg (mag <<< (52 - L)) (L - 52)) 9218868437227405312) := by
    unfold Format.nearest
    rw [if_neg (by omega)]
    simp only [dbl_binade, dbl_inf, dbl_least]
    rw [hlast]
    rw [show ((p : Int) - 1074 - ((q : Int) - 1074)).toNat = 52 - L by omega, show ((q : Int) - 1074 - ((p : Int) - 1074)).toNat = L - 52 by omega, show ((q : Int) - 1074 - -1074).toNat = q by omega]
  -- what is kept
  have hk : ∃ k, Toward.even.cut neg (mag <<< (52 - L)) (L - 52) = k ∧ 4503599627370496 ≤ k ∧ k ≤ 9007199254740992 ∧ (k * 2 ^ q ≤ mag * 2 ^ p + 2 ^ q ∧ mag * 2 ^ p ≤ k * 2 ^ q + 2 ^ q) ∧ (∀ c : Nat, q ≤ c → 2 ^ c ∣ mag * 2 ^ p → k * 2 ^ q = mag * 2 ^ p) := by
    by_cases hs : L ≤ 52
    · obtain ⟨k, hc, -, h0⟩ := cut_even neg (mag <<< (52 - L)) (L - 52) (by omega)
      have hk := h0 (by rw [show L - 52 = 0 by omega]; exact Nat.mod_one _)
      rw [show L - 52 = 0 by omega, Nat.pow_zero, Nat.div_one, Nat.shiftLeft_eq] at hk
      have e1 : k * 2 ^ q = mag * 2 ^ p := by rw [hk, Nat.mul_assoc, ← Nat.pow_add, show 52 - L + q = p by omega]
      have b1 : 2 ^ L * 2 ^ (52 - L) ≤ mag * 2 ^ (52 - L) := Nat.mul_le_mul_right _ l1
      have b2 : mag * 2 ^ (52 - L) < 2 ^ (L + 1) * 2 ^ (52 - L) := Nat.mul_lt_mul_of_pos_right l2 (Nat.two_pow_pos _)
      rw [← Nat.pow_add, show L + (52 - L) = 52 by omega] at b1
      rw [← Nat.pow_add, show L + 1 + (52 - L) = 53 by omega] at b2
      exact ⟨k, hc, by rw [hk]; exact b1, by rw [hk]; exact Nat.le_of_lt b2, by rw [e1]; exact ⟨Nat.le_add_right _ _, Nat.le_add_right _ _⟩, fun _ _ _ => e1⟩
    · have hz : mag <<< (52 - L) = mag := by rw [show 52 - L = 0 by omega]; rfl
      rw [hz]
      obtain ⟨k, hc, hor, h0⟩ := cut_even neg mag (L - 52) (by omega)
      have hd := Nat.div_add_mod mag (2 ^ (L - 52))
      have hr := Nat.mod_lt mag (Nat.two_pow_pos (L - 52))
      have hpq : 2 ^ (L - 52) * 2 ^ p = 2 ^ q := by rw [← Nat.pow_add, show L - 52 + p = q by omega]
      have b1 : 4503599627370496 ≤ mag / 2 ^ (L - 52) := by
        rw [Nat.le_div_iff_mul_le (Nat.two_pow_pos _), show (4503599627370496 : Nat) = 2 ^ 52 by rfl, ← Nat.pow_add, show 52 + (L - 52) = L by omega]; exact l1
      have b2 : mag / 2 ^ (L - 52) < 9007199254740992 := by
        rw [Nat.div_lt_iff_lt_mul (Nat.two_pow_pos _), show (9007199254740992 : Nat) = 2 ^ 53 by rfl, ← Nat.pow_add, show 53 + (L - 52) = L + 1 by omega]; exact l2
      have em : mag * 2 ^ p = mag / 2 ^ (L - 52) * 2 ^ q + mag % 2 ^ (L - 52) * 2 ^ p := by
        rw [← hpq, ← Nat.mul_assoc, ← Nat.add_mul, Nat.mul_comm (mag / 2 ^ (L - 52)), hd]
      have er : mag % 2 ^ (L - 52) * 2 ^ p ≤ 2 ^ q := by rw [← hpq]; exact Nat.mul_le_mul_right _ (Nat.le_of_lt hr)
      refine ⟨k, hc, by omega, by omega, ?_, fun c hcq hdv => ?_⟩
      · rcases hor with rfl | rfl
        · omega
        · rw [Nat.add_mul, Nat.one_mul]; omega
      · have h3 : 2 ^ q ∣ mag * 2 ^ p := Nat.dvd_trans (Nat.pow_dvd_pow 2 hcq) hdv
        have h4 : mag % 2 ^ (L - 52) = 0 := by
          rw [← hpq] at h3
          exact Nat.mod_eq_zero_of_dvd (Nat.dvd_of_mul_dvd_mul_right (Nat.two_pow_pos p) h3)
        have h5 := h0 h4
        rw [em, h4, h5]; simp
  obtain ⟨k, hc, k1, k2, herr, hex⟩ := hk
  rw [hn, hc]
  rw [Nat.min_eq_left (by omega), read_word neg _ (by omega) (by omega)]
  by_cases hk : k < 9007199254740992
  · refine ⟨k, q, k, ?_, rfl, herr, hex⟩
    have e1 : (q * 4503599627370496 + k) % 4503599627370496 = k - 4503599627370496 := by omega
    have e2 : (q * 4503599627370496 + k) / 4503599627370496 = q + 1 := by omega
    have e3 : 4503599627370496 + (k - 4503599627370496) = k := by omega
    have e4 : (-1074 : Int) + ((q + 1 - 1 : Nat) : Int) = (q : Int) - 1074 := by omega
    rw [e1, e2, e3, e4]
  · refine ⟨4503599627370496, q + 1, k, ?_, ?_, herr, hex⟩
    · have e1 : (q * 4503599627370496 + k) % 4503599627370496 = 0 := by omega
      have e2 : (q * 4503599627370496 + k) / 4503599627370496 = q + 2 := by omega
      have e4 : (-1074 : Int) + ((q + 2 - 1 : Nat) : Int) = ((q + 1 : Nat) : Int) - 1074 := by omega
      rw [e1, e2, e4]
    · have : k = 9007199254740992 := by omega
      rw [this, Nat.pow_succ, show (9007199254740992 : Nat) = 4503599627370496 * 2 by rfl, Nat.mul_assoc, Nat.mul_comm 2]
/-- A number's sign and size. -/
def sgn (s : Bool) (n : Nat) : Int := if s then -(n : Int) else n
/-- How many places a word has below 2^-110. -/
def top : Nat := 964
theorem top_eq : top = 964 := rfl
attribute [irreducible] top
/-- The word stands for v / 2^110. -/
def Num (x : Nat) (v : Int) : Prop := ∃ (s : Bool) (m e : Nat), double.read x = .number s m ((e : Int) - 1074) ∧ sgn s (m * 2 ^ e) = v * 2 ^ top
theorem signed_sgn (s : Bool) (m u : Nat) : signed s m u = sgn s (m * 2 ^ u) := by simp [signed, sgn, Nat.shiftLeft_eq]
theorem sgn_mul (s : Bool) (n k : Nat) : sgn s n * (k : Int) = sgn s (n * k) := by cases s <;> simp [sgn, Int.neg_mul]
theorem sgn_natAbs (t : Int) (h : t ≠ 0) : sgn (decide (t < 0)) t.natAbs = t := by
  unfold sgn
  by_cases h1 : t < 0
  · rw [if_pos (by simpa using h1)]; omega
  · rw [if_neg (by simpa using h1)]; omega
theorem mul_lt' {a b k : Nat} (h : a < b) (hk : 0 < k) : a * k < b * k := Nat.mul_lt_mul_of_pos_right h hk
theorem zero_of_mul {a k : Nat} {b : Nat} (hb : b = a * k) (h : a = 0) : b = 0 := by rw [hb, h, Nat.zero_mul]
theorem near_num (neg : Bool) (mag b V g : Nat) (hU : mag * 2 ^ b = V * 2 ^ top) (h1 : 4503599627370496 ≤ V) (h2 : V < 1329227995784915872903807060280344576) (hg : g ≤ 54) (hd : 2 ^ g ∣ V) :
    ∃ r : Nat, Num (double.nearest neg mag ((b : Int) - 1074)) (if neg then -(r : Int) else r) ∧ 2 ^ g ∣ r ∧ r ≤ V + 147573952589676412928 ∧ V ≤ r + 147573952589676412928 := by
  have ht := top_eq
  have hm : 0 < mag := by
    rcases Nat.eq_zero_or_pos mag with h | h
    · rw [h, Nat.zero_mul] at hU
      exact absurd hU.symm (Nat.ne_of_gt (Nat.mul_pos (Nat.lt_of_lt_of_le (by decide) h1) (Nat.two_pow_pos top)))
    · exact h
  have l1 : 2 ^ mag.log2 ≤ mag := Nat.log2_self_le (by omega)
  have l2 : mag < 2 ^ (mag.log2 + 1) := Nat.lt_log2_self
  have u1 : 2 ^ (b + mag.log2) < 2 ^ (120 + top) := by
    have a1 : 2 ^ mag.log2 * 2 ^ b ≤ mag * 2 ^ b := Nat.mul_le_mul_right _ l1
    have h2' : V < 2 ^ 120 := h2
    have a2 : V * 2 ^ top < 2 ^ 120 * 2 ^ top := mul_lt' (a := V) (b := 2 ^ 120) (k := 2 ^ top) h2' (Nat.two_pow_pos top)
    rw [← Nat.pow_add, Nat.add_comm] at a1
    rw [← Nat.pow_add] at a2
    omega
  have u2 : 2 ^ (52 + top) < 2 ^ (b + mag.log2 + 1) := by
    have a1 : mag * 2 ^ b < 2 ^ (mag.log2 + 1) * 2 ^ b := Nat.mul_lt_mul_of_pos_right l2 (Nat.two_pow_pos _)
    have a2 : 2 ^ 52 * 2 ^ top ≤ V * 2 ^ top := Nat.mul_le_mul_right _ h1
    rw [← Nat.pow_add, show mag.log2 + 1 + b = b + mag.log2 + 1 by omega] at a1
    rw [← Nat.pow_add] at a2
    omega
  have v1 : b + mag.log2 < 120 + top := (Nat.pow_lt_pow_iff_right (by decide)).1 u1
  have v2 : 52 + top < b + mag.log2 + 1 := (Nat.pow_lt_pow_iff_right (by decide)).1 u2
  obtain ⟨m, e, k, hr, hk, ⟨e1, e2⟩, hex⟩ := near neg mag b hm (by omega) (by omega)
  obtain ⟨q, hq⟩ : ∃ q, q = b + mag.log2 - 52 := ⟨_, rfl⟩
  rw [← hq] at hk e1 e2 hex
  have q1 : top ≤ q := by omega
  have q2 : q ≤ 67 + top := by omega
  have hq3 : 2 ^ q = 2 ^ (q - top) * 2 ^ top := by rw [← Nat.pow_add, show q - top + top = q by omega]
  have hq4 : 2 ^ (q - top) ≤ 147573952589676412928 := by
    have : 2 ^ (q - top) ≤ 2 ^ 67 := Nat.pow_le_pow_right (by decide) (by omega)
    exact this
  have hp : 0 < 2 ^ top := Nat.two_pow_pos top
  rw [hU, hq3, ← Nat.mul_assoc] at e1 e2
  rw [← Nat.add_mul] at e1 e2
  have e1' := Nat.le_of_mul_le_mul_right e1 hp
  have e2' := Nat.le_of_mul_le_mul_right e2 hp
  refine ⟨k * 2 ^ (q - top), ⟨neg, m, e, hr, ?_⟩, ?_, by clear hU e1 e2 hq3 hk hex hp u1 u2 l1 l2 hr; omega, by clear hU e1 e2 hq3 hk hex hp u1 u2 l1 l2 hr; omega⟩
  · rw [hk, hq3, ← Nat.mul_assoc]
    cases neg <;> simp [sgn, Int.neg_mul]
  · by_cases hc : g ≤ q - top
    · exact Nat.dvd_mul_left_of_dvd (Nat.pow_dvd_pow 2 hc) _
    · have h3 : 2 ^ (g + top) ∣ mag * 2 ^ b := by
        rw [hU, Nat.pow_add]; exact Nat.mul_dvd_mul_right hd _
      have h4 := hex (g + top) (by omega) h3
      rw [hU, hq3, ← Nat.mul_assoc] at h4
      have h5 := Nat.eq_of_mul_eq_mul_right hp h4
      rw [h5]; exact hd
theorem num_zero (neg : Bool) : Num (double.word neg 0) 0 := ⟨neg, 0, 0, by rw [read_zero]; rfl, by rw [Int.zero_mul, Nat.zero_mul]; cases neg <;> rfl⟩
theorem two_pos (k : Nat) : (0 : Int) < 2 ^ k := Int.pow_pos (by decide)
theorem cast_two (k : Nat) : ((2 ^ k : Nat) : Int) = 2 ^ k := by simp
/-- A sum: rounded once. -/
theorem num_add {x y : Nat} {v w : Int} (hx : Num x v) (hy : Num y w) (dv : (18014398509481984 : Int) ∣ v) (dw : (18014398509481984 : Int) ∣ w)
    (hb : -1329227995784915872903807060280344575 ≤ v + w ∧ v + w ≤ 1329227995784915872903807060280344575) :
    ∃ z r, double.add x y = some z ∧ Num z r ∧ (18014398509481984 : Int) ∣ r ∧ r ≤ v + w + 147573952589676412928 ∧ v + w ≤ r + 147573952589676412928 := by
  obtain ⟨s, m, i, rx, ex⟩ := hx
  have ht := top_eq
  obtain ⟨t, n, j, ry, ey⟩ := hy
  obtain ⟨b, hbm⟩ : ∃ b, b = min i j := ⟨_, rfl⟩
  have hbase : min ((i : Int) - 1074) ((j : Int) - 1074) = (b : Int) - 1074 := by omega
  obtain ⟨T, hT⟩ : ∃ T, T = sgn s (m * 2 ^ (i - b)) + sgn t (n * 2 ^ (j - b)) := ⟨_, rfl⟩
  have hTb : T * 2 ^ b = (v + w) * 2 ^ top := by
    rw [hT, Int.add_mul, ← cast_two b, sgn_mul, sgn_mul, Nat.mul_assoc, Nat.mul_assoc, ← Nat.pow_add, ← Nat.pow_add, show i - b + b = i by omega, show j - b + b = j by omega, ex, ey, Int.add_mul]
  have hadd : double.add x y = some (double.write (.number (if T = 0 then s && t else decide (T < 0)) T.natAbs ((b : Int) - 1074))) := by
    unfold Format.add
    rw [rx, ry]
    simp only [Datum.sum, Option.map_some, hbase]
    rw [signed_sgn, signed_sgn, show ((i : Int) - 1074 - ((b : Int) - 1074)).toNat = i - b by omega, show ((j : Int) - 1074 - ((b : Int) - 1074)).toNat = j - b by omega, ← hT]
  have hp := two_pos top
  have hpb := two_pos b
  by_cases h0 : T = 0
  · have hvw : v + w = 0 := by
      rw [h0, Int.zero_mul] at hTb
      rcases Int.mul_eq_zero.1 hTb.symm with h | h
      · exact h
      · exact absurd h (Int.ne_of_gt hp)
    refine ⟨_, 0, hadd, ?_, Int.dvd_zero _, by omega, by omega⟩
    rw [h0]
    exact num_zero _
  · obtain ⟨V, hV⟩ : ∃ V, V = (v + w).natAbs := ⟨_, rfl⟩
    have hU : T.natAbs * 2 ^ b = V * 2 ^ top := by
      have := congrArg Int.natAbs hTb
      rw [Int.natAbs_mul, Int.natAbs_mul, ← hV, Int.natAbs_pow, Int.natAbs_pow, show (2 : Int).natAbs = 2 from rfl] at this
      exact this
    have hvw : v + w ≠ 0 := fun h => by
      rw [h, Int.zero_mul] at hTb
      rcases Int.mul_eq_zero.1 hTb with h | h
      · exact h0 h
      · exact absurd h (Int.ne_of_gt hpb)
    have hd : 2 ^ 54 ∣ V := by
      have h1 : (18014398509481984 : Int) ∣ v + w := Int.dvd_add dv dw
      have h2 := Int.natAbs_dvd_natAbs.2 h1
      rw [← hV] at h2
      exact h2
    have hV1 : 18014398509481984 ≤ V := Nat.le_of_dvd (by omega) hd
    obtain ⟨r, nr, dr, r1, r2⟩ := near_num (decide (T < 0)) T.natAbs b V 54 hU (by omega) (by omega) (by omega) hd
    have hs : (T < 0 ↔ v + w < 0) := by
      constructor
      · intro h
        have h3 : T * 2 ^ b < 0 := Int.mul_neg_of_neg_of_pos h hpb
        rw [hTb] at h3
        rcases Int.lt_or_le (v + w) 0 with h4 | h4
        · exact h4
        · have := Int.mul_nonneg h4 (Int.le_of_lt hp); omega
      · intro h
        have h3 : (v + w) * 2 ^ top < 0 := Int.mul_neg_of_neg_of_pos h hp
        rw [← hTb] at h3
        rcases Int.lt_or_le T 0 with h4 | h4
        · exact h4
        · have := Int.mul_nonneg h4 (Int.le_of_lt hpb); omega
    refine ⟨_, if decide (T < 0) then -(r : Int) else r, hadd, ?_, ?_, ?_, ?_⟩
    · rw [if_neg h0]; exact nr
    · have : ((2 ^ 54 : Nat) : Int) ∣ (r : Int) := Int.natCast_dvd_natCast.2 dr
      split
      · exact Int.dvd_neg.2 this
      · exact this
    · split
      · rename_i h; have h5 := hs.1 (by simpa using h); omega
      · rename_i h; have h5 : ¬ (v + w < 0) := fun h6 => h (by simpa using hs.2 h6); omega
    · split
      · rename_i h; have h5 := hs.1 (by simpa using h); omega
      · rename_i h; have h5 : ¬ (v + w < 0) := fun h6 => h (by simpa using hs.2 h6); omega
theorem read_lt {x m : Nat} {s : Bool} {e : Int} (h : double.read x = .number s m e) : m < 9007199254740992 := by
  unfold Format.read at h
  rw [dbl_least, dbl_binade, dbl_inf, dbl_sign] at h
  simp only at h
  split at h
  · injection h with _ h2 _; omega
  · split at h
    · injection h with _ h2 _; omega
    · split at h <;> cases h
theorem read_four : double.read 4616189618054758400 = .number false 4503599627370496 (-50) := by decide +kernel
/-- A quarter: rounded once. -/
theorem num_quarter {x : Nat} {v : Int} (hx : Num x v) (dv : (18014398509481984 : Int) ∣ v) (hb : -1329227995784915872903807060280344575 ≤ v ∧ v ≤ 1329227995784915872903807060280344575) :
    ∃ z r, double.div x 4616189618054758400 = some z ∧ Num z r ∧ 4 * r ≤ v + 590295810358705651712 ∧ v ≤ 4 * r + 590295810358705651712 := by
  obtain ⟨s, m, i, rx, ex⟩ := hx
  have ht := top_eq
  have hm := read_lt rx
  obtain ⟨more, hmore⟩ : ∃ k, k = 54 + (4503599627370496 : Nat).log2 - m.log2 := ⟨_, rfl⟩
  have hl : (4503599627370496 : Nat).log2 = 52 := by decide +kernel
  rw [hl] at hmore
  have hml : m.log2 < 53 := by
    by_cases h0 : m = 0
    · subst h0; decide
    · exact (Nat.log2_lt h0).2 hm
  have hdv : m <<< more = m * 2 ^ (more - 52) * 4503599627370496 := by
    rw [Nat.shiftLeft_eq, Nat.mul_assoc, show (4503599627370496 : Nat) = 2 ^ 52 by rfl, ← Nat.pow_add, show more - 52 + 52 = more by omega]
  have hq : double.div x 4616189618054758400 = some (double.write (.number s (2 * (m * 2 ^ (more - 52))) ((i : Int) - 1074 + 50 - more - 1))) := by
    unfold Format.div
    rw [rx, read_four]
    simp only [Datum.quotient, dbl_frac, Option.map_some]
    rw [if_neg (by decide), hl, show 52 + 2 + 52 - m.log2 = more by omega, hdv, Nat.mul_div_cancel _ (by decide), Nat.mul_mod_left]
    have e1 : (s ^^ false) = s := by cases s <;> rfl
    rw [e1]
    rfl
  have hp := two_pos top
  by_cases h0 : m = 0
  · subst h0
    have hv : v = 0 := by
      rw [Nat.zero_mul, show sgn s 0 = 0 by cases s <;> rfl] at ex
      rcases Int.mul_eq_zero.1 ex.symm with h | h
      · exact h
      · exact absurd h (Int.ne_of_gt hp)
    refine ⟨_, 0, hq, ?_, by omega, by omega⟩
    rw [Nat.zero_mul, Nat.mul_zero]
    exact num_zero s
  · obtain ⟨V, hV⟩ : ∃ V, V = v.natAbs := ⟨_, rfl⟩
    have hU0 : m * 2 ^ i = V * 2 ^ top := by
      have := congrArg Int.natAbs ex
      rw [Int.natAbs_mul, ← hV, Int.natAbs_pow, show (2 : Int).natAbs = 2 from rfl] at this
      rw [← this]
      cases s
      · rfl
      · simp only [sgn, if_true, Int.natAbs_neg]; rfl
    have hv0 : V ≠ 0 := fun h => by
      rcases Nat.mul_eq_zero.1 (zero_of_mul hU0 h) with h | h
      · exact h0 h
      · exact absurd h (Nat.ne_of_gt (Nat.two_pow_pos i))
    have hd : 18014398509481984 ∣ V := by
      have h2 := Int.natAbs_dvd_natAbs.2 dv
      rw [← hV] at h2
      exact h2
    have hV1 : 18014398509481984 ≤ V := Nat.le_of_dvd (by omega) hd
    obtain ⟨W, hW⟩ : ∃ W, V = 4 * W := ⟨V / 4, by omega⟩
    have hi : 965 ≤ i := by
      rcases Nat.lt_or_ge i 965 with h | h
      · exfalso
        have a1 : m * 2 ^ i < 2 ^ 53 * 2 ^ i := Nat.mul_lt_mul_of_pos_right (show m < 2 ^ 53 from hm) (Nat.two_pow_pos i)
        have a2 : 2 ^ 53 * 2 ^ i ≤ 2 ^ 53 * 2 ^ top := Nat.mul_le_mul_left _ (Nat.pow_le_pow_right (by decide) (by omega))
        have a3 : 2 ^ 54 * 2 ^ top ≤ V * 2 ^ top := Nat.mul_le_mul_right _ (show 2 ^ 54 ≤ V from hV1)
        have a4 : 2 ^ 53 * 2 ^ top ≤ 2 ^ 54 * 2 ^ top := Nat.mul_le_mul_right _ (by decide)
        rw [hU0] at a1
        exact absurd (Nat.lt_of_lt_of_le a1 (Nat.le_trans a2 (Nat.le_trans a4 a3))) (Nat.lt_irrefl _)
      · exact h
    obtain ⟨b, hb2⟩ : ∃ b, b = i + 49 - more := ⟨_, rfl⟩
    have hpl : (i : Int) - 1074 + 50 - more - 1 = (b : Int) - 1074 := by omega
    have hU : 2 * (m * 2 ^ (more - 52)) * 2 ^ b = W * 2 ^ top := by
      have e1 : 2 * (m * 2 ^ (more - 52)) * 2 ^ b = m * 2 ^ (i - 2) := by
        rw [Nat.mul_comm 2, Nat.mul_assoc, Nat.mul_assoc, show 2 * 2 ^ b = 2 ^ (b + 1) by rw [Nat.pow_succ, Nat.mul_comm], ← Nat.pow_add, show more - 52 + (b + 1) = i - 2 by omega]
      have e2 : m * 2 ^ i = m * 2 ^ (i - 2) * 4 := by
        rw [Nat.mul_assoc, show (4 : Nat) = 2 ^ 2 by rfl, ← Nat.pow_add, show i - 2 + 2 = i by omega]
      rw [e1]
      rw [e2, hW] at hU0
      have e3 : 4 * W * 2 ^ top = W * 2 ^ top * 4 := by rw [Nat.mul_comm 4 W, Nat.mul_assoc, Nat.mul_comm 4, ← Nat.mul_assoc]
      rw [e3] at hU0
      exact Nat.eq_of_mul_eq_mul_right (by decide) hU0
    obtain ⟨r, nr, -, r1, r2⟩ := near_num s (2 * (m * 2 ^ (more - 52))) b W 0 hU (by omega) (by omega) (by omega) (by simp)
    have hs : s = true ↔ v < 0 := by
      cases s
      · constructor
        · intro h; cases h
        · intro h
          exfalso
          have h3 : v * 2 ^ top < 0 := Int.mul_neg_of_neg_of_pos h hp
          rw [← ex] at h3
          exact absurd h3 (Int.not_lt.2 (Int.natCast_nonneg _))
      · constructor
        · intro _
          rcases Int.lt_or_le v 0 with h | h
          · exact h
          · exfalso
            have h3 := Int.mul_nonneg h (Int.le_of_lt hp)
            rw [← ex] at h3
            have h4 : (0 : Int) < ((m * 2 ^ i : Nat) : Int) := Int.natCast_pos.2 (Nat.mul_pos (by omega) (Nat.two_pow_pos i))
            exact absurd h3 (Int.not_le.2 (Int.neg_neg_of_pos h4))
        · intro _; rfl
    refine ⟨_, if s = true then -(r : Int) else r, hq, ?_, ?_, ?_⟩
    · rw [hpl]; exact nr
    · clear hU hU0 hq ex rx hdv hp nr hpl
      by_cases h : s = true
      · rw [if_pos h]; have := hs.1 h; omega
      · rw [if_neg h]; have : ¬ v < 0 := fun k => h (hs.2 k); omega
    · clear hU hU0 hq ex rx hdv hp nr hpl
      by_cases h : s = true
      · rw [if_pos h]; have := hs.1 h; omega
      · rw [if_neg h]; have : ¬ v < 0 := fun k => h (hs.2 k); omega
/-- How two words stand to each other. -/
theorem num_order {x y : Nat} {v w : Int} (hx : Num x v) (hy : Num y w) : double.order x y = some (compare v w) := by
  obtain ⟨s, m, i, rx, ex⟩ := hx
  have ht := top_eq
  obtain ⟨t, n, j, ry, ey⟩ := hy
  obtain ⟨b, hbm⟩ : ∃ b, b = min i j := ⟨_, rfl⟩
  have hbase : min ((i : Int) - 1074) ((j : Int) - 1074) = (b : Int) - 1074 := by omega
  unfold Format.order
  rw [rx, ry]
  simp only [Datum.order, hbase]
  rw [signed_sgn, signed_sgn, show ((i : Int) - 1074 - ((b : Int) - 1074)).toNat = i - b by omega, show ((j : Int) - 1074 - ((b : Int) - 1074)).toNat = j - b by omega]
  have ev : sgn s (m * 2 ^ (i - b)) * 2 ^ b = v * 2 ^ top := by rw [← cast_two b, sgn_mul, Nat.mul_assoc, ← Nat.pow_add, show i - b + b = i by omega, ex]
  have ew : sgn t (n * 2 ^ (j - b)) * 2 ^ b = w * 2 ^ top := by rw [← cast_two b, sgn_mul, Nat.mul_assoc, ← Nat.pow_add, show j - b + b = j by omega, ey]
  generalize sgn s (m * 2 ^ (i - b)) = p at *
  generalize sgn t (n * 2 ^ (j - b)) = q at *
  have hp := two_pos top
  have hpb := two_pos b
  congr 1
  have lt : ∀ {a b c d : Int}, a * 2 ^ b.toNat = c → True := fun _ => trivial
  rcases Int.lt_trichotomy v w with h | h | h
  · have h1 : v * 2 ^ top < w * 2 ^ top := Int.mul_lt_mul_of_pos_right h hp
    rw [← ev, ← ew] at h1
    have h2 : p < q := Int.lt_of_mul_lt_mul_right h1 (Int.le_of_lt hpb)
    rw [Int.compare_eq_lt.2 h, Int.compare_eq_lt.2 h2]
  · subst h
    have h2 : p = q := Int.eq_of_mul_eq_mul_right (Int.ne_of_gt hpb) (ev.trans ew.symm)
    rw [Int.compare_eq_eq.2 rfl, Int.compare_eq_eq.2 h2]
  · have h1 : w * 2 ^ top < v * 2 ^ top := Int.mul_lt_mul_of_pos_right h hp
    rw [← ev, ← ew] at h1
    have h2 : q < p := Int.lt_of_mul_lt_mul_right h1 (Int.le_of_lt hpb)
    rw [Int.compare_eq_gt.2 h, Int.compare_eq_gt.2 h2]
/-! ### The numbers of floatOf -/
/-- A small whole number as a word. -/
def fi (n : Int) : Nat := double.write (.number (n < 0) n.natAbs 0)
/-- A word that a check found to be near a number: what it stands for. -/
def near1 (x : Nat) (n : Int) : Bool :=
  match double.read x with
  | .number s m e => decide (-1074 ≤ e) && decide (sgn s (m * 2 ^ (e + 1074).toNat) % (18014398509481984 * 2 ^ 964) = 0) && decide (sgn s (m * 2 ^ (e + 1074).toNat) / 2 ^ 964 ≤ n + 147573952589676412928) && decide (n ≤ sgn s (m * 2 ^ (e + 1074).toNat) / 2 ^ 964 + 147573952589676412928)
  | _ => false
theorem near1_num {x : Nat} {n : Int} (h : near1 x n = true) : ∃ v, Num x v ∧ (18014398509481984 : Int) ∣ v ∧ v ≤ n + 147573952589676412928 ∧ n ≤ v + 147573952589676412928 := by
  unfold near1 at h
  split at h
  · rename_i s m e hr
    simp only [Bool.and_eq_true, decide_eq_true_eq] at h
    obtain ⟨⟨⟨h0, h1⟩, h2⟩, h3⟩ := h
    obtain ⟨k, hk⟩ : ∃ k, k = (e + 1074).toNat := ⟨_, rfl⟩
    rw [← hk] at h1 h2 h3
    have he : e = (k : Int) - 1074 := by omega
    rw [← top_eq] at h1 h2 h3
    have hp := two_pos top
    obtain ⟨d, hd⟩ := Int.dvd_of_emod_eq_zero h1
    have hv : sgn s (m * 2 ^ k) / 2 ^ top = 18014398509481984 * d := by
      rw [hd, Int.mul_right_comm]; exact Int.mul_ediv_cancel _ (Int.ne_of_gt hp)
    rw [hv] at h2 h3
    exact ⟨18014398509481984 * d, ⟨s, m, k, by rw [hr, he], by rw [hd, Int.mul_right_comm]⟩, Int.dvd_mul_right _ _, h2, h3⟩
  · cases h
def tab (r R : Nat) : Bool := (List.range 201).all fun k => match double.mul (fi ((k : Int) - 100)) r with | some x => near1 x (((k : Int) - 100) * R) | none => false
theorem tab_num {r R : Nat} (h : tab r R = true) {n : Int} (h0 : -100 ≤ n) (h1 : n ≤ 100) : ∃ x v, double.mul (fi n) r = some x ∧ Num x v ∧ (18014398509481984 : Int) ∣ v ∧ v ≤ n * R + 147573952589676412928 ∧ n * R ≤ v + 147573952589676412928 := by
  unfold tab at h
  rw [List.all_eq_true] at h
  have h2 := h (n + 100).toNat (by simp; omega)
  rw [show (((n + 100).toNat : Nat) : Int) - 100 = n by omega] at h2
  split at h2
  · rename_i x hx
    obtain ⟨v, a, b, c, d⟩ := near1_num h2
    exact ⟨x, v, hx, a, b, c, d⟩
  · cases h2
def tab1 : Bool := (List.range 201).all fun k => near1 (fi ((k : Int) - 100)) (((k : Int) - 100) * 1298074214633706907132624082305024)
set_option maxRecDepth 100000 in
theorem tab1_ok : tab1 = true := by decide +kernel
theorem tab1_num {n : Int} (h0 : -100 ≤ n) (h1 : n ≤ 100) : ∃ v, Num (fi n) v ∧ (18014398509481984 : Int) ∣ v ∧ v ≤ n * 1298074214633706907132624082305024 + 147573952589676412928 ∧ n * 1298074214633706907132624082305024 ≤ v + 147573952589676412928 := by
  have h := tab1_ok
  unfold tab1 at h
  rw [List.all_eq_true] at h
  have h2 := h (n + 100).toNat (by simp; omega)
  rw [show (((n + 100).toNat : Nat) : Int) - 100 = n by omega] at h2
  exact near1_num h2
set_option maxRecDepth 100000 in
theorem tab2_ok : tab 4609047870845172685 1835754159301792358345649906778112 = true := by decide +kernel
set_option maxRecDepth 100000 in
theorem tab3_ok : tab 4610479282544200874 2248330491740648073656283565129728 = true := by decide +kernel
set_option maxRecDepth 100000 in
theorem tab6_ok : tab 4612698179346440494 3179619474116594369689150677843968 = true := by decide +kernel
theorem milli_size : 4611686018427388 * 2 ^ (48 + top) = 1298074214633706934154221846528 * 2 ^ top := by
  rw [Nat.pow_add, ← Nat.mul_assoc]
theorem milli_read : double.read 4562254508917369340 = .number false 4611686018427388 (-62) := by decide +kernel
theorem minus_read : double.read 13785626545772145148 = .number true 4611686018427388 (-62) := by decide +kernel
theorem milli : Num 4562254508917369340 1298074214633706934154221846528 := ⟨false, 4611686018427388, 48 + top, by rw [milli_read, top_eq]; rfl, by rw [milli_size]; simp only [sgn]; rw [Int.natCast_mul, cast_two]; rfl⟩
theorem minus : Num 13785626545772145148 (-1298074214633706934154221846528) := ⟨true, 4611686018427388, 48 + top, by rw [minus_read, top_eq]; rfl, by rw [milli_size]; simp only [sgn]; rw [Int.natCast_mul, cast_two, Int.neg_mul]; rfl⟩
/-- What floatOf calculates with, in 2^-110. -/
def est (a b c d : Int) : Int := a * 1298074214633706907132624082305024 + b * 1835754159301792358345649906778112 + c * 2248330491740648073656283565129728 + d * 3179619474116594369689150677843968
theorem flo (a b c d : Int) (ha : -100 ≤ a ∧ a ≤ 100) (hb : -100 ≤ b ∧ b ≤ 100) (hc : -100 ≤ c ∧ c ≤ 100) (hd : -100 ≤ d ∧ d ≤ 100) :
    ∃ x1 x2 x3 y1 y2 y3 z r, double.mul (fi b) 4609047870845172685 = some x1 ∧ double.add (fi a) x1 = some y1 ∧ double.mul (fi c) 4610479282544200874 = some x2 ∧ double.add y1 x2 = some y2 ∧
      double.mul (fi d) 4612698179346440494 = some x3 ∧ double.add y2 x3 = some y3 ∧ double.div y3 4616189618054758400 = some z ∧ Num z r ∧ 4 * r ≤ est a b c d + 2361183241434822606848 ∧ est a b c d ≤ 4 * r + 2361183241434822606848 := by
  obtain ⟨u, nu, du, u1, u2⟩ := tab1_num ha.1 ha.2
  obtain ⟨x1, v1, m1, n1, d1, e1, f1⟩ := tab_num tab2_ok hb.1 hb.2
  obtain ⟨x2, v2, m2, n2, d2, e2, f2⟩ := tab_num tab3_ok hc.1 hc.2
  obtain ⟨x3, v3, m3, n3, d3, e3, f3⟩ := tab_num tab6_ok hd.1 hd.2
  obtain ⟨y1, w1, s1, k1, g1, p1, q1⟩ := num_add nu n1 du d1 (by omega)
  obtain ⟨y2, w2, s2, k2, g2, p2, q2⟩ := num_add k1 n2 g1 d2 (by omega)
  obtain ⟨y3, w3, s3, k3, g3, p3, q3⟩ := num_add k2 n3 g2 d3 (by omega)
  obtain ⟨z, r, hz, nz, r1, r2⟩ := num_quarter k3 g3 (by omega)
  exact ⟨x1, x2, x3, y1, y2, y3, z, r, m1, s1, m2, s2, m3, s3, hz, nz, by unfold est; omega, by unfold est; omega⟩
theorem p4_down {n a b c e : Int} (hn : 0 < n) (h : P4 (n * a) (n * b) (n * c) (n * e)) : P4 a b c e := by
  rcases p4_tri a b c e with ⟨rfl, rfl, rfl, rfl⟩ | k | k
  · simp only [Int.mul_zero] at h; exact (p4_zero h).elim
  · exact k
  · have := p4_mul (p4_int hn) k
    simp only [Int.mul_zero, Int.zero_mul, Int.add_zero, Int.zero_add] at this
    simp only [Int.mul_neg] at this
    exact (p4_not h this).elim
theorem p4_up {n a b c e : Int} (hn : 0 < n) (h : P4 a b c e) : P4 (n * a) (n * b) (n * c) (n * e) := by
  have := p4_mul (p4_int hn) h
  simp only [Int.mul_zero, Int.zero_mul, Int.add_zero, Int.zero_add] at this
  exact this
theorem brk (b R : Int) (f : Int → Int → Prop) (hf : ∀ x y, f x y → ∀ n, 0 < n → f (n * x) (n * y)) (ha : ∀ x y, f x y → f (x + 1) y) (h0 : f 1 0) (h1 : f (288230376151711744 - R) 1298074214633706907132624082305024) (h2 : f (288230376151711744 + R) (-1298074214633706907132624082305024)) (hb : -100 ≤ b ∧ b ≤ 100) :
    ∃ s, 0 ≤ s ∧ s ≤ 28823037615171174401 ∧ f (s - b * R) (1298074214633706907132624082305024 * b) := by
  rcases (show 0 < b ∨ b = 0 ∨ b < 0 by omega) with h | h | h
  · refine ⟨b * 288230376151711744, by omega, by omega, ?_⟩
    have := hf _ _ h1 b h
    rwa [show b * (288230376151711744 - R) = b * 288230376151711744 - b * R by rw [Int.mul_sub], Int.mul_comm b 1298074214633706907132624082305024] at this
  · subst h
    exact ⟨1, by decide, by decide, by simpa using h0⟩
  · refine ⟨-b * 288230376151711744, by omega, by omega, ?_⟩
    have := hf _ _ h2 (-b) (by omega)
    rwa [show -b * (288230376151711744 + R) = -b * 288230376151711744 - b * R by rw [Int.mul_add, Int.neg_mul b R, Int.sub_eq_add_neg], show -b * -1298074214633706907132624082305024 = 1298074214633706907132624082305024 * b by omega] at this
theorem p4_more {x a b c : Int} (h : P4 x a b c) : P4 (x + 1) a b c := by
  have := p4_add h (p4_int (n := 1) (by decide))
  simpa using this
theorem b2a : P4 (288230376151711744 - 1835754159301792358345649906778112) 1298074214633706907132624082305024 0 0 := by decide +kernel
theorem b2b : P4 (288230376151711744 + 1835754159301792358345649906778112) (-1298074214633706907132624082305024) 0 0 := by decide +kernel
theorem b3a : P4 (288230376151711744 - 2248330491740648073656283565129728) 0 1298074214633706907132624082305024 0 := by decide +kernel
theorem b3b : P4 (288230376151711744 + 2248330491740648073656283565129728) 0 (-1298074214633706907132624082305024) 0 := by decide +kernel
theorem b6a : P4 (288230376151711744 - 3179619474116594369689150677843968) 0 0 1298074214633706907132624082305024 := by decide +kernel
theorem b6b : P4 (288230376151711744 + 3179619474116594369689150677843968) 0 0 (-1298074214633706907132624082305024) := by decide +kernel
/-- What is estimated far above 0 is greater than 0. -/
theorem est_pos (a b c d : Int) (hb : -100 ≤ b ∧ b ≤ 100) (hc : -100 ≤ c ∧ c ≤ 100) (hd : -100 ≤ d ∧ d ≤ 100) (h : 118059162071741130342400 < est a b c d) : P4 a b c d := by
  obtain ⟨s, s0, s1, k1⟩ := brk b 1835754159301792358345649906778112 (fun x y => P4 x y 0 0) (fun x y h n hn => by simpa using p4_up hn h) (fun x y h => p4_more h) (p4_int (by decide)) b2a b2b hb
  obtain ⟨t, t0, t1, k2⟩ := brk c 2248330491740648073656283565129728 (fun x y => P4 x 0 y 0) (fun x y h n hn => by simpa using p4_up hn h) (fun x y h => p4_more h) (p4_int (by decide)) b3a b3b hc
  obtain ⟨u, u0, u1, k3⟩ := brk d 3179619474116594369689150677843968 (fun x y => P4 x 0 0 y) (fun x y h n hn => by simpa using p4_up hn h) (fun x y h => p4_more h) (p4_int (by decide)) b6a b6b hd
  unfold est at h
  have k4 : P4 (a * 1298074214633706907132624082305024 - (s - b * 1835754159301792358345649906778112) - (t - c * 2248330491740648073656283565129728) - (u - d * 3179619474116594369689150677843968)) 0 0 0 := p4_int (by omega)
  have k := p4_add (p4_add k1 k2) (p4_add k3 k4)
  refine p4_down (n := 1298074214633706907132624082305024) (by decide) ?_
  simp only [Int.add_zero, Int.zero_add] at k
  rwa [show s - b * 1835754159301792358345649906778112 + (t - c * 2248330491740648073656283565129728) + (u - d * 3179619474116594369689150677843968 + (a * 1298074214633706907132624082305024 - (s - b * 1835754159301792358345649906778112) - (t - c * 2248330491740648073656283565129728) - (u - d * 3179619474116594369689150677843968))) = 1298074214633706907132624082305024 * a by omega] at k
theorem est_neg (a b c d : Int) : est (-a) (-b) (-c) (-d) = -est a b c d := by unfold est; omega
/-- A float that is far from 0 tells the sign. -/
theorem far_sign (a b c d r : Int) (hb : -100 ≤ b ∧ b ≤ 100) (hc : -100 ≤ c ∧ c ≤ 100) (hd : -100 ≤ d ∧ d ≤ 100) (h1 : 4 * r ≤ est a b c d + 2361183241434822606848) (h2 : est a b c d ≤ 4 * r + 2361183241434822606848) :
    (1298074214633706934154221846528 < r → sg4 a b c d = 1) ∧ (r < -1298074214633706934154221846528 → sg4 a b c d = -1) := by
  constructor
  · intro h; exact sg4_pos.2 (est_pos a b c d hb hc hd (by omega))
  · intro h
    refine sg4_neg1.2 (est_pos (-a) (-b) (-c) (-d) (by omega) (by omega) (by omega) ?_)
    rw [est_neg]; omega
end Go.Proofs.Ytcdlenphgenejaa
