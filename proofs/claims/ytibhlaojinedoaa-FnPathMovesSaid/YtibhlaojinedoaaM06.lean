/-
  Floats of both widths as whole numbers of 2^-110: what an operation gives is the exact result, rounded once (rnd).
  Floats: quarters, the two formats, conversions, and the words of sums and products by name.
  Floats of both widths over their whole range: a finite word is a sign and a whole number of least floats; what an operation gives is the exact result, rounded once (rndN), down to the smallest floats.
  The roots' words in both widths, what they stand for; sums of eight terms, rounded term by term and sum by sum.
-/
import Derived.WalkKit
import Ieee.Arith
import Derived.WalkLawsBesides
/- Floats of both widths as whole numbers of 2^-110: what an operation gives is the exact result, rounded once (rnd). -/
namespace Go.Proofs.Ytibhlaojinedoaa
set_option maxRecDepth 20000
set_option linter.unusedVariables false
set_option linter.unusedSimpArgs false
open Ieee

/-! ### Whole numbers rounded to p + 1 digits -/
def sgnd (s : Bool) (n : Nat) : Int := if s then -(n : Int) else n
theorem sgnd_mul (s : Bool) (n k : Nat) : sgnd s n * (k : Int) = sgnd s (n * k) := by cases s <;> simp [sgnd, Int.neg_mul]
theorem sgnd_abs (s : Bool) (n : Nat) : (sgnd s n).natAbs = n := by cases s <;> simp [sgnd]
theorem sgnd_neg (s : Bool) (n : Nat) : sgnd (!s) n = -sgnd s n := by cases s <;> simp [sgnd]
theorem sgnd_zero (s : Bool) : sgnd s 0 = 0 := by cases s <;> rfl
theorem sgnd_of (v : Int) : sgnd (decide (v < 0)) v.natAbs = v := by
  unfold sgnd
  by_cases h : v < 0
  · rw [if_pos (by simpa using h)]; omega
  · rw [if_neg (by simpa using h)]; omega
theorem sgnd_prod (s t : Bool) (m n : Nat) : sgnd s m * sgnd t n = sgnd (s ^^ t) (m * n) := by cases s <;> cases t <;> simp [sgnd, Int.neg_mul, Int.mul_neg]
def cutN (n d : Nat) : Nat := n / 2 ^ d + (decide (2 ^ d < 2 * (n % 2 ^ d)) || (2 ^ d == 2 * (n % 2 ^ d) && n / 2 ^ d % 2 == 1)).toNat
theorem cut_cutN (neg : Bool) (n d : Nat) (h : d ≤ n.log2 + 2) : Toward.even.cut neg n d = cutN n d := by
  unfold Toward.cut cutN
  rw [Nat.min_eq_left h, Nat.shiftLeft_eq, Nat.one_mul]
theorem cutN_zero (n : Nat) : cutN n 0 = n := by
  unfold cutN
  rw [Nat.pow_zero, Nat.mod_one, Nat.div_one]; simp
theorem cutN_scale (n k d : Nat) : cutN (n * 2 ^ k) (d + k) = cutN n d := by
  unfold cutN
  have hk : 0 < 2 ^ k := Nat.two_pow_pos k
  have e1 : n * 2 ^ k / (2 ^ d * 2 ^ k) = n / 2 ^ d := Nat.mul_div_mul_right _ _ hk
  have e2 : n * 2 ^ k % (2 ^ d * 2 ^ k) = n % 2 ^ d * 2 ^ k := Nat.mul_mod_mul_right _ _ _
  rw [Nat.pow_add, e1, e2, ← Nat.mul_assoc]
  generalize 2 * (n % 2 ^ d) = r
  generalize 2 ^ d = g
  have c1 : (g * 2 ^ k < r * 2 ^ k) ↔ g < r := Nat.mul_lt_mul_right hk
  have c2 : (g * 2 ^ k == r * 2 ^ k) = (g == r) := by
    by_cases h : g = r
    · subst h; simp
    · have : g * 2 ^ k ≠ r * 2 ^ k := fun e => h (Nat.eq_of_mul_eq_mul_right hk e)
      rw [beq_eq_false_iff_ne.2 this, beq_eq_false_iff_ne.2 h]
  rw [c2, decide_eq_decide.2 c1]
theorem cutN_scale0 (n k : Nat) : cutN (n * 2 ^ k) k = n := by
  have := cutN_scale n k 0
  rw [Nat.zero_add] at this
  rw [this, cutN_zero]
theorem cutN_err (n d : Nat) : 2 * (cutN n d * 2 ^ d) ≤ 2 * n + 2 ^ d ∧ 2 * n ≤ 2 * (cutN n d * 2 ^ d) + 2 ^ d := by
  unfold cutN
  have hd := Nat.div_add_mod n (2 ^ d)
  have hr := Nat.mod_lt n (Nat.two_pow_pos d)
  generalize hq : n / 2 ^ d = q at *
  generalize n % 2 ^ d = r at *
  generalize 2 ^ d = g at *
  have e : g * q = q * g := Nat.mul_comm _ _
  rw [e] at hd
  by_cases h1 : g < 2 * r
  · rw [show (decide (g < 2 * r) || (g == 2 * r && q % 2 == 1)) = true by simp [h1]]
    rw [show (true : Bool).toNat = 1 from rfl, Nat.add_mul, Nat.one_mul]
    generalize q * g = x at *
    omega
  · by_cases h2 : (g == 2 * r && q % 2 == 1) = true
    · rw [show (decide (g < 2 * r) || (g == 2 * r && q % 2 == 1)) = true by simp [h2]]
      rw [show (true : Bool).toNat = 1 from rfl, Nat.add_mul, Nat.one_mul]
      have : g = 2 * r := by simp at h2; exact h2.1
      generalize q * g = x at *
      omega
    · rw [show (decide (g < 2 * r) || (g == 2 * r && q % 2 == 1)) = false by simp [h1]; simpa using h2]
      rw [show (false : Bool).toNat = 0 from rfl, Nat.add_zero]
      generalize q * g = x at *
      omega
/-- What is kept is a full significand. -/
theorem cutN_full {n p d : Nat} (h1 : 2 ^ (p + d) ≤ n) (h2 : n < 2 ^ (p + 1 + d)) : 2 ^ p ≤ cutN n d ∧ cutN n d ≤ 2 ^ (p + 1) := by
  have hp := Nat.two_pow_pos d
  have b1 : 2 ^ p ≤ n / 2 ^ d := by rw [Nat.le_div_iff_mul_le hp, ← Nat.pow_add]; exact h1
  have b2 : n / 2 ^ d < 2 ^ (p + 1) := by rw [Nat.div_lt_iff_lt_mul hp, ← Nat.pow_add]; exact h2
  unfold cutN
  generalize (decide (2 ^ d < 2 * (n % 2 ^ d)) || (2 ^ d == 2 * (n % 2 ^ d) && n / 2 ^ d % 2 == 1)) = b
  cases b
  · simp only [Bool.toNat_false]; omega
  · simp only [Bool.toNat_true]; omega
def rndN (p V : Nat) : Nat := cutN V (V.log2 - p) * 2 ^ (V.log2 - p)
def rnd (p : Nat) (v : Int) : Int := sgnd (decide (v < 0)) (rndN p v.natAbs)
theorem log2_up {n : Nat} (hn : 0 < n) (k : Nat) : (n * 2 ^ k).log2 = n.log2 + k := by
  have h0 : n * 2 ^ k ≠ 0 := Nat.ne_of_gt (Nat.mul_pos hn (Nat.two_pow_pos k))
  have l1 : 2 ^ n.log2 ≤ n := Nat.log2_self_le (by omega)
  have l2 : n < 2 ^ (n.log2 + 1) := Nat.lt_log2_self
  have a1 : n.log2 + k ≤ (n * 2 ^ k).log2 := by
    rw [Nat.le_log2 h0, Nat.pow_add]
    exact Nat.mul_le_mul_right _ l1
  have a2 : (n * 2 ^ k).log2 < n.log2 + 1 + k := by
    rw [Nat.log2_lt h0, Nat.pow_add]
    exact Nat.mul_lt_mul_of_pos_right l2 (Nat.two_pow_pos k)
  omega
theorem rndN_zero (p : Nat) : rndN p 0 = 0 := by
  unfold rndN
  rw [show Nat.log2 0 = 0 by decide, Nat.zero_sub, cutN_zero, Nat.zero_mul]
theorem rndN_exact {p n : Nat} (h : n < 2 ^ (p + 1)) (k : Nat) : rndN p (n * 2 ^ k) = n * 2 ^ k := by
  rcases Nat.eq_zero_or_pos n with rfl | hn
  · rw [Nat.zero_mul, rndN_zero]
  · unfold rndN
    rw [log2_up hn k]
    have hl : n.log2 < p + 1 := by rw [Nat.log2_lt (by omega)]; exact h
    obtain ⟨d, hd⟩ : ∃ d, d = n.log2 + k - p := ⟨_, rfl⟩
    rw [← hd]
    have e : n * 2 ^ k = n * 2 ^ (k - d) * 2 ^ d := by rw [Nat.mul_assoc, ← Nat.pow_add, show k - d + d = k by omega]
    rw [e, cutN_scale0]
theorem rndN_err (p V : Nat) : rndN p V * 2 ^ (p + 1) ≤ V * 2 ^ (p + 1) + V ∧ V * 2 ^ (p + 1) ≤ rndN p V * 2 ^ (p + 1) + V := by
  rcases Nat.eq_zero_or_pos V with rfl | hV
  · rw [rndN_zero]; simp
  have l1 : 2 ^ V.log2 ≤ V := Nat.log2_self_le (by omega)
  unfold rndN
  by_cases h : V.log2 ≤ p
  · rw [show V.log2 - p = 0 by omega, cutN_zero, Nat.pow_zero, Nat.mul_one]; omega
  · obtain ⟨d, hd⟩ : ∃ d, d = V.log2 - p := ⟨_, rfl⟩
    rw [← hd]
    have hdp : 2 ^ d * 2 ^ p ≤ V := by rw [← Nat.pow_add, show d + p = V.log2 by omega]; exact l1
    obtain ⟨e1, e2⟩ := cutN_err V d
    have f1 := Nat.mul_le_mul_right (2 ^ p) e1
    have f2 := Nat.mul_le_mul_right (2 ^ p) e2
    rw [Nat.pow_succ]
    generalize cutN V d * 2 ^ d = K at *
    generalize 2 ^ d = g at *
    generalize 2 ^ p = P at *
    rw [Nat.add_mul] at f1 f2
    rw [show K * (P * 2) = 2 * K * P by rw [Nat.mul_comm P, ← Nat.mul_assoc, Nat.mul_comm K], show V * (P * 2) = 2 * V * P by rw [Nat.mul_comm P, ← Nat.mul_assoc, Nat.mul_comm V]]
    omega
theorem rnd_zero (p : Nat) : rnd p 0 = 0 := by unfold rnd; rw [show (0 : Int).natAbs = 0 from rfl, rndN_zero, sgnd_zero]
theorem rnd_neg (p : Nat) (v : Int) : rnd p (-v) = -rnd p v := by
  rcases Int.lt_trichotomy v 0 with h | rfl | h
  · unfold rnd
    rw [Int.natAbs_neg, show decide (-v < 0) = false by simp; omega, show decide (v < 0) = true by simpa using h]
    simp [sgnd]
  · rw [Int.neg_zero, rnd_zero]; rfl
  · unfold rnd
    rw [Int.natAbs_neg, show decide (-v < 0) = true by simp; omega, show decide (v < 0) = false by simp; omega]
    simp [sgnd]
theorem rnd_sgnd (p : Nat) (s : Bool) (n : Nat) : rnd p (sgnd s n) = sgnd s (rndN p n) := by
  cases s
  · unfold rnd; rw [sgnd_abs]; rw [show decide (sgnd false n < 0) = false by simp [sgnd]]
  · rw [show sgnd true n = -sgnd false n by rfl, rnd_neg]
    unfold rnd; rw [sgnd_abs]; rw [show decide (sgnd false n < 0) = false by simp [sgnd]]; rfl
theorem rnd_exact {p n : Nat} (h : n < 2 ^ (p + 1)) (k : Nat) (s : Bool) : rnd p (sgnd s (n * 2 ^ k)) = sgnd s (n * 2 ^ k) := by rw [rnd_sgnd, rndN_exact h]
/-- How far rounding goes: by a part in 2^(p+1). -/
theorem rnd_err (p : Nat) (v B : Int) (h1 : -B ≤ v) (h2 : v ≤ B) : (rnd p v - v) * 2 ^ (p + 1) ≤ B ∧ -B ≤ (rnd p v - v) * 2 ^ (p + 1) := by
  obtain ⟨e1, e2⟩ := rndN_err p v.natAbs
  have hc : ((2 ^ (p + 1) : Nat) : Int) = 2 ^ (p + 1) := by simp
  have hv := sgnd_of v
  unfold rnd
  generalize hP : 2 ^ (p + 1) = P at *
  rw [← hc, Int.sub_mul, sgnd_mul]
  have h3 : v * (P : Int) = sgnd (decide (v < 0)) (v.natAbs * P) := by rw [← sgnd_mul, hv]
  rw [h3]
  generalize hd : decide (v < 0) = d
  generalize rndN p v.natAbs * P = x at *
  generalize v.natAbs * P = y at *
  cases d <;> simp only [sgnd] <;> simp <;> omega
/-! ### Formats -/
def Std (f : Format) (p lo t M : Nat) : Prop :=
  f.fractionBits = p ∧ f.leastPlace = -(lo : Int) ∧ f.binade = 2 ^ p ∧ f.infRung = M * 2 ^ p ∧ f.signWeight = (M + 1) * 2 ^ p ∧ lo = t + 110 ∧ p ≤ t ∧ t + 203 ≤ M + p
/-- A datum that stands for v / 2^110. -/
def DVal (t : Nat) (d : Datum) (v : Int) : Prop := ∃ (s : Bool) (m b : Nat), d = .number s m ((b : Int) - ((t + 110 : Nat) : Int)) ∧ sgnd s (m * 2 ^ b) = v * 2 ^ t
def Val (f : Format) (t x : Nat) (v : Int) : Prop := DVal t (f.read x) v
theorem read_wordN {f : Format} {p lo t M : Nat} (H : Std f p lo t M) (neg : Bool) (rung : Nat) (h1 : 2 ^ p ≤ rung) (h2 : rung < M * 2 ^ p) :
    f.read (f.word neg rung) = .number neg (2 ^ p + rung % 2 ^ p) (-(lo : Int) + ((rung / 2 ^ p - 1 : Nat) : Int)) := by
  obtain ⟨-, hl, hb, hi, hs, -⟩ := H
  unfold Format.read Format.word
  rw [hl, hb, hi, hs]
  have h3 : rung < (M + 1) * 2 ^ p := by rw [Nat.add_mul]; omega
  generalize hS : (M + 1) * 2 ^ p = S at *
  have e1 : (if neg = true then S + rung else rung) % S = rung := by
    cases neg
    · simp only [Bool.false_eq_true, if_false]; exact Nat.mod_eq_of_lt h3
    · simp only [if_true]; rw [Nat.add_mod_left]; exact Nat.mod_eq_of_lt h3
  have e2 : ((if neg = true then S + rung else rung) / S % 2 == 1) = neg := by
    have hS0 : 0 < S := by omega
    cases neg
    · simp only [Bool.false_eq_true, if_false]; rw [Nat.div_eq_of_lt h3]; rfl
    · simp only [if_true]; rw [Nat.add_div_left _ hS0, Nat.div_eq_of_lt h3]; rfl
  simp only [e1, e2]
  rw [if_neg (by omega), if_pos h2]
theorem read_zeroN {f : Format} {p lo t M : Nat} (H : Std f p lo t M) (neg : Bool) : f.read (f.word neg 0) = .number neg 0 (-(lo : Int)) := by
  obtain ⟨-, hl, hb, hi, hs, -⟩ := H
  have hp : 0 < 2 ^ p := Nat.two_pow_pos p
  have hS0 : 0 < (M + 1) * 2 ^ p := Nat.mul_pos (by omega) hp
  unfold Format.read Format.word
  rw [hl, hb, hs]
  generalize (M + 1) * 2 ^ p = S at *
  cases neg
  · simp only [Bool.false_eq_true, if_false]; rw [Nat.zero_mod, if_pos hp, Nat.zero_div]; rfl
  · simp only [if_true, Nat.add_zero]; rw [Nat.mod_self, if_pos hp, Nat.div_self hS0]; rfl
/-- What is written is the number, rounded once. -/
theorem nearest_val {f : Format} {p lo t M : Nat} (H : Std f p lo t M) (neg : Bool) (mag b j V : Nat) (place : Int) (hpl : place = (b : Int) - (lo : Int) - (j : Int)) (hX : mag * 2 ^ b = V * 2 ^ (t + j)) (hV : V < 2 ^ 200) :
    Val f t (f.nearest neg mag place) (sgnd neg (rndN p V)) := by
  have H0 := H
  obtain ⟨hf, hl, hb, hi, hs, ht, hpt, hbig⟩ := H
  rcases Nat.eq_zero_or_pos mag with rfl | hm
  · have hV0 : V = 0 := by
      rw [Nat.zero_mul] at hX
      rcases Nat.mul_eq_zero.1 hX.symm with h | h
      · exact h
      · exact absurd h (Nat.ne_of_gt (Nat.two_pow_pos _))
    subst hV0
    unfold Format.nearest
    rw [if_pos rfl, rndN_zero, sgnd_zero]
    refine ⟨neg, 0, 0, ?_, by rw [Nat.zero_mul, sgnd_zero, Int.zero_mul]⟩
    rw [read_zeroN H0, ← ht]; simp
  · have hV0 : 0 < V := by
      rcases Nat.eq_zero_or_pos V with rfl | h
      · rw [Nat.zero_mul] at hX; exact absurd hX (Nat.ne_of_gt (Nat.mul_pos hm (Nat.two_pow_pos b)))
      · exact h
    have hL : b + mag.log2 = V.log2 + t + j := by
      have := congrArg Nat.log2 hX
      rw [log2_up hm, log2_up hV0] at this; omega
    have hVl : V.log2 < 200 := by rw [Nat.log2_lt (by omega)]; exact hV
    obtain ⟨q, hq⟩ : ∃ q, q = V.log2 + t - p := ⟨_, rfl⟩
    have hlast : max (place + (mag.log2 : Int) - (f.fractionBits : Nat)) f.leastPlace = (q : Int) - (lo : Int) := by
      rw [hf, hl]; omega
    have l1 : 2 ^ V.log2 ≤ V := Nat.log2_self_le (by omega)
    have l2 : V < 2 ^ (V.log2 + 1) := Nat.lt_log2_self
    -- the same cut, of V
    have hcut : Toward.even.cut neg (mag <<< (b - (j + q))) (j + q - b) = cutN (V * 2 ^ t) q := by
      have hz : cutN (mag * 2 ^ b) (q + j) = cutN (V * 2 ^ t) q := by rw [hX, Nat.pow_add, ← Nat.mul_assoc, cutN_scale]
      have hml : (mag <<< (b - (j + q))).log2 = mag.log2 + (b - (j + q)) := by rw [Nat.shiftLeft_eq, log2_up hm]
      rw [cut_cutN _ _ _ (by rw [hml]; omega), ← hz, Nat.shiftLeft_eq]
      by_cases hc : j + q ≤ b
      · rw [show j + q - b = 0 by omega, cutN_zero]
        have e : mag * 2 ^ b = mag * 2 ^ (b - (j + q)) * 2 ^ (q + j) := by rw [Nat.mul_assoc, ← Nat.pow_add, show b - (j + q) + (q + j) = b by omega]
        rw [e, cutN_scale0]
      · rw [show b - (j + q) = 0 by omega, Nat.pow_zero, Nat.mul_one]
        have := cutN_scale mag b (j + q - b)
        rw [show j + q - b + b = q + j by omega] at this
        exact this.symm
    have hn : f.nearest neg mag place = f.word neg (min (q * 2 ^ p + cutN (V * 2 ^ t) q) (M * 2 ^ p)) := by
      unfold Format.nearest
      rw [if_neg (by omega)]
      simp only [hb, hi]
      rw [hlast, hl, hpl]
      rw [show ((b : Int) - (lo : Int) - (j : Int) - ((q : Int) - (lo : Int))).toNat = b - (j + q) by omega, show ((q : Int) - (lo : Int) - ((b : Int) - (lo : Int) - (j : Int))).toNat = j + q - b by omega, show ((q : Int) - (lo : Int) - -(lo : Int)).toNat = q by omega, hcut]
    -- a full significand
    have hfull : 2 ^ p ≤ cutN (V * 2 ^ t) q ∧ cutN (V * 2 ^ t) q ≤ 2 ^ (p + 1) := by
      refine cutN_full ?_ ?_
      · rw [show p + q = V.log2 + t by omega, Nat.pow_add]; exact Nat.mul_le_mul_right _ l1
      · rw [show p + 1 + q = V.log2 + 1 + t by omega, Nat.pow_add]; exact Nat.mul_lt_mul_of_pos_right l2 (Nat.two_pow_pos t)
    -- what it stands for
    have hval : cutN (V * 2 ^ t) q * 2 ^ q = rndN p V * 2 ^ t := by
      unfold rndN
      by_cases hc : V.log2 ≤ p
      · rw [show V.log2 - p = 0 by omega, cutN_zero, Nat.pow_zero, Nat.mul_one]
        have e : V * 2 ^ t = V * 2 ^ (t - q) * 2 ^ q := by rw [Nat.mul_assoc, ← Nat.pow_add, show t - q + q = t by omega]
        rw [e, cutN_scale0]
      · have e := cutN_scale V t (V.log2 - p)
        rw [show V.log2 - p + t = q by omega] at e
        rw [e, Nat.mul_assoc, ← Nat.pow_add, show V.log2 - p + t = q by omega]
    rw [hn]
    obtain ⟨f1, f2⟩ := hfull
    generalize cutN (V * 2 ^ t) q = k at *
    have hpp : 0 < 2 ^ p := Nat.two_pow_pos p
    have hM : (q + 3) * 2 ^ p ≤ M * 2 ^ p := Nat.mul_le_mul_right _ (by omega)
    have f2' : k ≤ 2 * 2 ^ p := by rw [Nat.pow_succ] at f2; omega
    have hrl : q * 2 ^ p + k < M * 2 ^ p := by
      have e3 : (q + 3) * 2 ^ p = q * 2 ^ p + 3 * 2 ^ p := Nat.add_mul _ _ _
      omega
    unfold Val
    rw [Nat.min_eq_left (Nat.le_of_lt hrl), read_wordN H0 neg _ (by omega) hrl]
    by_cases hk : k < 2 * 2 ^ p
    · refine ⟨neg, k, q, ?_, ?_⟩
      · have e1 : (q * 2 ^ p + k) % 2 ^ p = k - 2 ^ p := by
          rw [Nat.mul_comm, Nat.mul_add_mod]
          rw [show k = (k - 2 ^ p) + 2 ^ p by omega, Nat.add_mod_right, Nat.mod_eq_of_lt (by omega)]; omega
        have e2 : (q * 2 ^ p + k) / 2 ^ p = q + 1 := by
          rw [Nat.mul_comm, Nat.mul_add_div hpp, show k / 2 ^ p = 1 by rw [Nat.div_eq_iff hpp]; omega]
        rw [e1, e2]
        congr 1
        · omega
        · omega
      · rw [hval, ← sgnd_mul]; simp
    · refine ⟨neg, 2 ^ p, q + 1, ?_, ?_⟩
      · have hk2 : k = 2 * 2 ^ p := by omega
        have e1 : (q * 2 ^ p + k) % 2 ^ p = 0 := by rw [hk2, ← Nat.add_mul, Nat.mul_mod_left]
        have e2 : (q * 2 ^ p + k) / 2 ^ p = q + 2 := by rw [hk2, ← Nat.add_mul, Nat.mul_div_cancel _ hpp]
        rw [e1, e2]
        congr 1
        omega
      · have hk2 : k = 2 * 2 ^ p := by omega
        have e3 : 2 ^ p * 2 ^ (q + 1) = k * 2 ^ q := by rw [hk2, Nat.pow_succ, ← Nat.mul_assoc, Nat.mul_right_comm, Nat.mul_comm (2 ^ p) 2, Nat.mul_right_comm, Nat.mul_assoc, Nat.mul_comm, Nat.mul_assoc, Nat.mul_comm]
        rw [e3, hval, ← sgnd_mul]; simp
theorem two_powI (k : Nat) : (0 : Int) < 2 ^ k := Int.pow_pos (by decide)
theorem cast_powI (k : Nat) : ((2 ^ k : Nat) : Int) = 2 ^ k := by simp
theorem abs_mul_pow {n : Nat} {v : Int} {s : Bool} {t : Nat} (h : sgnd s n = v * 2 ^ t) : n = v.natAbs * 2 ^ t := by
  have := congrArg Int.natAbs h
  rw [sgnd_abs, Int.natAbs_mul, Int.natAbs_pow] at this
  exact this
theorem sign_of {n : Nat} {v : Int} {s : Bool} {t : Nat} (h : sgnd s n = v * 2 ^ t) (h0 : v ≠ 0) : s = decide (v < 0) := by
  have hp := two_powI t
  have hn : 0 < n := by
    rcases Nat.eq_zero_or_pos n with rfl | h1
    · rw [sgnd_zero] at h
      rcases Int.mul_eq_zero.1 h.symm with h2 | h2
      · exact absurd h2 h0
      · omega
    · exact h1
  cases s
  · rcases Int.lt_or_le v 0 with h3 | h3
    · have h4 := Int.mul_neg_of_neg_of_pos h3 hp
      rw [← h] at h4; simp only [sgnd] at h4; simp at h4; omega
    · simp; omega
  · rcases Int.lt_or_le v 0 with h3 | h3
    · simpa using h3
    · have h4 := Int.mul_nonneg h3 (Int.le_of_lt hp)
      rw [← h] at h4; simp only [sgnd] at h4; simp at h4; omega
theorem pow200 {v : Int} (h : -1606938044258990275541962092341162602522202993782792835301375 ≤ v ∧ v ≤ 1606938044258990275541962092341162602522202993782792835301375) : v.natAbs < 2 ^ 200 := by
  have : (2 : Nat) ^ 200 = 1606938044258990275541962092341162602522202993782792835301376 := by decide
  omega
/-- A sum, rounded once. -/
theorem sum_val {f : Format} {p lo t M : Nat} (H : Std f p lo t M) {x y : Datum} {v w : Int} (hx : DVal t x v) (hy : DVal t y w)
    (hb : -1606938044258990275541962092341162602522202993782792835301375 ≤ v + w ∧ v + w ≤ 1606938044258990275541962092341162602522202993782792835301375) :
    ∃ z, (x.sum y).map f.write = some z ∧ Val f t z (rnd p (v + w)) := by
  obtain ⟨s, m, i, rfl, ex⟩ := hx
  obtain ⟨u, n, j, rfl, ey⟩ := hy
  have hlo := H.2.2.2.2.2.1
  obtain ⟨b, hbm⟩ : ∃ b, b = min i j := ⟨_, rfl⟩
  have hbase : min ((i : Int) - ((t + 110 : Nat) : Int)) ((j : Int) - ((t + 110 : Nat) : Int)) = (b : Int) - ((t + 110 : Nat) : Int) := by omega
  obtain ⟨T, hT⟩ : ∃ T, T = sgnd s (m * 2 ^ (i - b)) + sgnd u (n * 2 ^ (j - b)) := ⟨_, rfl⟩
  have hss : ∀ (s : Bool) (m k : Nat), signed s m k = sgnd s (m * 2 ^ k) := fun s m k => by simp [signed, sgnd, Nat.shiftLeft_eq]
  have hTb : T * 2 ^ b = (v + w) * 2 ^ t := by
    rw [hT, Int.add_mul, ← cast_powI b, sgnd_mul, sgnd_mul, Nat.mul_assoc, Nat.mul_assoc, ← Nat.pow_add, ← Nat.pow_add, show i - b + b = i by omega, show j - b + b = j by omega, ex, ey, Int.add_mul]
  have hadd : ((Datum.number s m ((i : Int) - ((t + 110 : Nat) : Int))).sum (.number u n ((j : Int) - ((t + 110 : Nat) : Int)))).map f.write = some (f.nearest (if T = 0 then s && u else decide (T < 0)) T.natAbs ((b : Int) - ((t + 110 : Nat) : Int))) := by
    simp only [Datum.sum, Option.map_some, hbase]
    rw [hss, hss, show ((i : Int) - ((t + 110 : Nat) : Int) - ((b : Int) - ((t + 110 : Nat) : Int))).toNat = i - b by omega, show ((j : Int) - ((t + 110 : Nat) : Int) - ((b : Int) - ((t + 110 : Nat) : Int))).toNat = j - b by omega, ← hT]
    rfl
  have hU : T.natAbs * 2 ^ b = (v + w).natAbs * 2 ^ (t + 0) := by
    have := congrArg Int.natAbs hTb
    rw [Int.natAbs_mul, Int.natAbs_mul, Int.natAbs_pow, Int.natAbs_pow] at this
    exact this
  refine ⟨_, hadd, ?_⟩
  have hn := nearest_val H (if T = 0 then s && u else decide (T < 0)) T.natAbs b 0 (v + w).natAbs ((b : Int) - ((t + 110 : Nat) : Int)) (by omega) hU (pow200 hb)
  have hp := two_powI t
  have hpb := two_powI b
  by_cases h0 : v + w = 0
  · rw [h0] at hn ⊢
    rw [rnd_zero]
    rw [show (0 : Int).natAbs = 0 from rfl, rndN_zero, sgnd_zero] at hn
    exact hn
  · have hT0 : T ≠ 0 := fun h => by
      rw [h, Int.zero_mul] at hTb
      rcases Int.mul_eq_zero.1 hTb.symm with h | h
      · exact h0 h
      · omega
    have hs : decide (T < 0) = decide (v + w < 0) := by
      have e := hTb
      rcases Int.lt_or_le T 0 with h3 | h3
      · have h4 := Int.mul_neg_of_neg_of_pos h3 hpb
        rw [hTb] at h4
        rcases Int.lt_or_le (v + w) 0 with h5 | h5
        · simp [h3, h5]
        · have := Int.mul_nonneg h5 (Int.le_of_lt hp); omega
      · have h4 := Int.mul_nonneg h3 (Int.le_of_lt hpb)
        rw [hTb] at h4
        rcases Int.lt_or_le (v + w) 0 with h5 | h5
        · have := Int.mul_neg_of_neg_of_pos h5 hp; omega
        · rw [decide_eq_decide]; omega
    rw [if_neg hT0] at hn ⊢
    rw [hs] at hn ⊢
    exact hn
theorem opp_val {t : Nat} {x : Datum} {v : Int} (hx : DVal t x v) : DVal t x.opposite (-v) := by
  obtain ⟨s, m, i, rfl, ex⟩ := hx
  exact ⟨!s, m, i, rfl, by rw [sgnd_neg, ex, Int.neg_mul]⟩
theorem add_val {f : Format} {p lo t M : Nat} (H : Std f p lo t M) {x y : Nat} {v w : Int} (hx : Val f t x v) (hy : Val f t y w)
    (hb : -1606938044258990275541962092341162602522202993782792835301375 ≤ v + w ∧ v + w ≤ 1606938044258990275541962092341162602522202993782792835301375) :
    ∃ z, f.add x y = some z ∧ Val f t z (rnd p (v + w)) := sum_val H hx hy hb
theorem sub_val {f : Format} {p lo t M : Nat} (H : Std f p lo t M) {x y : Nat} {v w : Int} (hx : Val f t x v) (hy : Val f t y w)
    (hb : -1606938044258990275541962092341162602522202993782792835301375 ≤ v - w ∧ v - w ≤ 1606938044258990275541962092341162602522202993782792835301375) :
    ∃ z, f.sub x y = some z ∧ Val f t z (rnd p (v - w)) := by
  have := sum_val H hx (opp_val hy) (by omega)
  rw [← Int.sub_eq_add_neg] at this
  exact this
/-- A whole number times a number, rounded once. -/
theorem mul_val {f : Format} {p lo t M : Nat} (H : Std f p lo t M) {x y : Nat} {c r : Int} (hx : Val f t x (c * 2 ^ 110)) (hy : Val f t y r)
    (hb : -1606938044258990275541962092341162602522202993782792835301375 ≤ c * r ∧ c * r ≤ 1606938044258990275541962092341162602522202993782792835301375) :
    ∃ z, f.mul x y = some z ∧ Val f t z (rnd p (c * r)) := by
  have hlo := H.2.2.2.2.2.1
  unfold Val at hx hy
  obtain ⟨s, m, i, rx, ex⟩ := hx
  obtain ⟨u, n, j, ry, ey⟩ := hy
  have hmul : f.mul x y = some (f.nearest (s ^^ u) (m * n) ((i : Int) - ((t + 110 : Nat) : Int) + ((j : Int) - ((t + 110 : Nat) : Int)))) := by
    unfold Format.mul
    rw [rx, ry]; rfl
  refine ⟨_, hmul, ?_⟩
  have e1 := abs_mul_pow ex
  have e2 := abs_mul_pow ey
  rw [Int.natAbs_mul, Int.natAbs_pow, show (2 : Int).natAbs = 2 from rfl] at e1
  have hU : m * n * 2 ^ (i + j) = (c * r).natAbs * 2 ^ (t + (t + 110)) := by
    rw [Nat.pow_add, show m * n * (2 ^ i * 2 ^ j) = m * 2 ^ i * (n * 2 ^ j) from Nat.mul_mul_mul_comm _ _ _ _, e1, e2, Int.natAbs_mul]
    rw [Nat.pow_add 2 t (t + 110), Nat.pow_add 2 t 110]
    generalize 2 ^ 110 = P
    generalize 2 ^ t = Q
    simp only [Nat.mul_assoc, Nat.mul_left_comm, Nat.mul_comm]
  have hn := nearest_val H (s ^^ u) (m * n) (i + j) (t + 110) (c * r).natAbs ((i : Int) - ((t + 110 : Nat) : Int) + ((j : Int) - ((t + 110 : Nat) : Int))) (by omega) hU (pow200 hb)
  by_cases h0 : c * r = 0
  · rw [h0] at hn ⊢
    rw [rnd_zero]
    rw [show (0 : Int).natAbs = 0 from rfl, rndN_zero, sgnd_zero] at hn
    exact hn
  · have hc0 : c ≠ 0 := fun h => h0 (by rw [h, Int.zero_mul])
    have hr0 : r ≠ 0 := fun h => h0 (by rw [h, Int.mul_zero])
    have s1 : s = decide (c < 0) := by
      have := sign_of ex (fun h => by rcases Int.mul_eq_zero.1 h with h | h; exact hc0 h; exact absurd h (Int.ne_of_gt (two_powI 110)))
      rw [this, decide_eq_decide]
      have hp := two_powI 110
      constructor
      · intro h
        rcases Int.lt_or_le c 0 with h5 | h5
        · exact h5
        · have := Int.mul_nonneg h5 (Int.le_of_lt hp); omega
      · intro h; exact Int.mul_neg_of_neg_of_pos h hp
    have s2 := sign_of ey hr0
    have e3 : c * r = sgnd (s ^^ u) (c * r).natAbs := by
      rw [Int.natAbs_mul, ← sgnd_prod, s1, s2, sgnd_of, sgnd_of]
    rw [show rnd p (c * r) = sgnd (s ^^ u) (rndN p (c * r).natAbs) by rw [← rnd_sgnd, ← e3]]
    exact hn
theorem int_val {f : Format} {p lo t M : Nat} (H : Std f p lo t M) {c : Int} (hb : c.natAbs < 2 ^ (p + 1)) (h2 : c.natAbs < 2 ^ 90) : Val f t (f.write (.number (decide (c < 0)) c.natAbs 0)) (c * 2 ^ 110) := by
  have hlo := H.2.2.2.2.2.1
  have hn := nearest_val H (decide (c < 0)) c.natAbs (t + 110) 0 (c.natAbs * 2 ^ 110) 0 (by omega) (by rw [Nat.mul_assoc, ← Nat.pow_add, show 110 + (t + 0) = t + 110 by omega]) (by
    have : c.natAbs * 2 ^ 110 < 2 ^ 90 * 2 ^ 110 := Nat.mul_lt_mul_of_pos_right h2 (Nat.two_pow_pos _)
    rwa [← Nat.pow_add] at this)
  rw [rndN_exact hb, ← sgnd_mul, sgnd_of] at hn
  rw [cast_powI] at hn
  exact hn
/-- How two words stand to each other. -/
theorem order_val {f : Format} {t x y : Nat} {v w : Int} (hx : Val f t x v) (hy : Val f t y w) : f.order x y = some (compare v w) := by
  obtain ⟨s, m, i, rx, ex⟩ := hx
  obtain ⟨u, n, j, ry, ey⟩ := hy
  obtain ⟨b, hbm⟩ : ∃ b, b = min i j := ⟨_, rfl⟩
  have hbase : min ((i : Int) - ((t + 110 : Nat) : Int)) ((j : Int) - ((t + 110 : Nat) : Int)) = (b : Int) - ((t + 110 : Nat) : Int) := by omega
  have hss : ∀ (s : Bool) (m k : Nat), signed s m k = sgnd s (m * 2 ^ k) := fun s m k => by simp [signed, sgnd, Nat.shiftLeft_eq]
  unfold Format.order
  rw [rx, ry]
  simp only [Datum.order, hbase]
  rw [hss, hss, show ((i : Int) - ((t + 110 : Nat) : Int) - ((b : Int) - ((t + 110 : Nat) : Int))).toNat = i - b by omega, show ((j : Int) - ((t + 110 : Nat) : Int) - ((b : Int) - ((t + 110 : Nat) : Int))).toNat = j - b by omega]
  have ev : sgnd s (m * 2 ^ (i - b)) * 2 ^ b = v * 2 ^ t := by rw [← cast_powI b, sgnd_mul, Nat.mul_assoc, ← Nat.pow_add, show i - b + b = i by omega, ex]
  have ew : sgnd u (n * 2 ^ (j - b)) * 2 ^ b = w * 2 ^ t := by rw [← cast_powI b, sgnd_mul, Nat.mul_assoc, ← Nat.pow_add, show j - b + b = j by omega, ey]
  generalize sgnd s (m * 2 ^ (i - b)) = p at *
  generalize sgnd u (n * 2 ^ (j - b)) = q at *
  have hp := two_powI t
  have hpb := two_powI b
  congr 1
  rcases Int.lt_trichotomy v w with h | h | h
  · have h1 : v * 2 ^ t < w * 2 ^ t := Int.mul_lt_mul_of_pos_right h hp
    rw [← ev, ← ew] at h1
    have h2 : p < q := Int.lt_of_mul_lt_mul_right h1 (Int.le_of_lt hpb)
    rw [Int.compare_eq_lt.2 h, Int.compare_eq_lt.2 h2]
  · subst h
    have h2 : p = q := Int.eq_of_mul_eq_mul_right (Int.ne_of_gt hpb) (ev.trans ew.symm)
    rw [Int.compare_eq_eq.2 rfl, Int.compare_eq_eq.2 h2]
  · have h1 : w * 2 ^ t < v * 2 ^ t := Int.mul_lt_mul_of_pos_right h hp
    rw [← ev, ← ew] at h1
    have h2 : q < p := Int.lt_of_mul_lt_mul_right h1 (Int.le_of_lt hpb)
    rw [Int.compare_eq_gt.2 h, Int.compare_eq_gt.2 h2]
/-- What a constant stands for. -/
theorem const_val {f : Format} {t x : Nat} (s : Bool) (m b : Nat) (place : Int) (hp : place = (b : Int) - 110) (h : f.read x = .number s m place) : Val f t x (sgnd s (m * 2 ^ b)) :=
  ⟨s, m, b + t, by rw [h, hp]; congr 1; omega, by rw [← cast_powI t, sgnd_mul, Nat.mul_assoc, ← Nat.pow_add]⟩
end Go.Proofs.Ytibhlaojinedoaa
/- Floats: quarters, the two formats, conversions, and the words of sums and products by name. -/
namespace Go.Proofs.Ytibhlaojinedoaa
set_option maxRecDepth 20000
set_option linter.unusedVariables false
set_option linter.unusedSimpArgs false
open Ieee

theorem read_mant {f : Format} {p lo t M : Nat} (H : Std f p lo t M) {x m : Nat} {s : Bool} {e : Int} (h : f.read x = .number s m e) : m < 2 ^ (p + 1) := by
  obtain ⟨-, -, hb, -, -, -⟩ := H
  have hp : 0 < 2 ^ p := Nat.two_pow_pos p
  unfold Format.read at h
  rw [hb] at h
  rw [Nat.pow_succ]
  simp only at h
  split at h
  · rename_i h1; cases h; omega
  · split at h
    · rename_i h1 h2
      injection h with _ e2 _
      have := Nat.mod_lt (x % f.signWeight) hp
      omega
    · split at h <;> cases h
theorem quarter_val {f : Format} {p lo t M : Nat} (H : Std f p lo t M) {x y : Nat} {w : Int} (hx : Val f t x (4 * w)) (hy : f.read y = .number false (2 ^ p) (2 - (p : Int)))
    (hb : -1606938044258990275541962092341162602522202993782792835301375 ≤ w ∧ w ≤ 1606938044258990275541962092341162602522202993782792835301375) :
    ∃ z, f.div x y = some z ∧ Val f t z (rnd p w) := by
  have hlo := H.2.2.2.2.2.1
  have hf := H.1
  unfold Val at hx
  obtain ⟨s, m, i, rx, ex⟩ := hx
  have hm := read_mant H rx
  have hml : m.log2 ≤ p := by
    rcases Nat.eq_zero_or_pos m with rfl | h
    · rw [show Nat.log2 0 = 0 by decide]; omega
    · have := (Nat.log2_lt (by omega)).2 hm; omega
  obtain ⟨k, hk⟩ : ∃ k, k = p + 2 + p - m.log2 := ⟨_, rfl⟩
  have hpp : 0 < 2 ^ p := Nat.two_pow_pos p
  have e1 : m * 2 ^ k = m * 2 ^ (k - p) * 2 ^ p := by rw [Nat.mul_assoc, ← Nat.pow_add, show k - p + p = k by omega]
  have hdiv : f.div x y = some (f.nearest s (2 * (m * 2 ^ (k - p))) ((i : Int) - ((t + 110 : Nat) : Int) - (2 - (p : Int)) - (k : Int) - 1)) := by
    unfold Format.div
    rw [rx, hy, hf]
    simp only [Datum.quotient]
    rw [if_neg (Nat.ne_of_gt hpp), Nat.log2_two_pow, ← hk, Nat.shiftLeft_eq, e1, Nat.mul_div_cancel _ hpp, Nat.mul_mod_left]
    simp [Format.write]
  refine ⟨_, hdiv, ?_⟩
  have e2 := abs_mul_pow ex
  rw [Int.natAbs_mul, show (4 : Int).natAbs = 4 from rfl] at e2
  have hU : 2 * (m * 2 ^ (k - p)) * 2 ^ i = w.natAbs * 2 ^ (t + (k - p + 3)) := by
    have e3 : 2 * (m * 2 ^ (k - p)) * 2 ^ i = 2 * (m * 2 ^ i) * 2 ^ (k - p) := by
      rw [Nat.mul_assoc, Nat.mul_assoc, Nat.mul_assoc, Nat.mul_comm (2 ^ (k - p)), ← Nat.mul_assoc m]
    rw [e3, e2, Nat.pow_add, Nat.pow_add]
    generalize 2 ^ t = T
    generalize 2 ^ (k - p) = K
    rw [show 2 ^ 3 = 8 by rfl, show 2 * (4 * w.natAbs * T) * K = 8 * (w.natAbs * T * K) by rw [← Nat.mul_assoc, ← Nat.mul_assoc, Nat.mul_assoc, Nat.mul_assoc, ← Nat.mul_assoc w.natAbs], Nat.mul_comm 8, Nat.mul_assoc, Nat.mul_assoc]
  have hn := nearest_val H s (2 * (m * 2 ^ (k - p))) i (k - p + 3) w.natAbs ((i : Int) - ((t + 110 : Nat) : Int) - (2 - (p : Int)) - (k : Int) - 1) (by omega) hU (pow200 hb)
  by_cases h0 : w = 0
  · subst h0
    rw [rnd_zero]
    rw [show (0 : Int).natAbs = 0 from rfl, rndN_zero, sgnd_zero] at hn
    exact hn
  · have hs := sign_of ex (by omega)
    have hs2 : s = decide (w < 0) := by rw [hs, decide_eq_decide]; omega
    rw [show rnd p w = sgnd s (rndN p w.natAbs) by rw [hs2]; rfl]
    exact hn

/-! ### The two formats -/
def tD : Nat := 964
theorem tD_eq : tD = 964 := rfl
def tS : Nat := 39
theorem tS_eq : tS = 39 := rfl
attribute [irreducible] tD tS
theorem stdD : Std double 52 1074 tD 2047 := by
  refine ⟨rfl, by decide, by decide, by decide, by decide, ?_, ?_, ?_⟩ <;> rw [tD_eq] <;> decide
theorem stdS : Std single 23 149 tS 255 := by
  refine ⟨rfl, by decide, by decide, by decide, by decide, ?_, ?_, ?_⟩ <;> rw [tS_eq] <;> decide
def ValD (x : Nat) (v : Int) : Prop := Val double tD x v
def ValS (x : Nat) (v : Int) : Prop := Val single tS x v
/-- A float of 32 bits is one of 64 bits. -/
theorem wider {x : Nat} {v : Int} (hx : ValS x v) (hb : -1606938044258990275541962092341162602522202993782792835301375 ≤ v ∧ v ≤ 1606938044258990275541962092341162602522202993782792835301375) : ∃ z, floatToFloatBits .f32 x .f64 = some z ∧ ValD z v := by
  unfold ValS at hx
  obtain ⟨s, m, b, rx, ex⟩ := hx
  have hm := read_mant stdS rx
  have e1 := abs_mul_pow ex
  have tS1 := tS_eq
  have tD1 := tD_eq
  -- rounded already
  have hex : rndN 52 v.natAbs = v.natAbs := by
    by_cases hc : tS ≤ b
    · have e2 : v.natAbs = m * 2 ^ (b - tS) := by
        have e3 : m * 2 ^ b = m * 2 ^ (b - tS) * 2 ^ tS := by rw [Nat.mul_assoc, ← Nat.pow_add, show b - tS + tS = b by omega]
        rw [e3] at e1
        exact (Nat.eq_of_mul_eq_mul_right (Nat.two_pow_pos tS) e1).symm
      rw [e2]
      refine rndN_exact (Nat.lt_of_lt_of_le hm ?_) _
      exact Nat.pow_le_pow_right (by decide) (by decide)
    · have e2 : m = v.natAbs * 2 ^ (tS - b) := by
        have e3 : v.natAbs * 2 ^ tS = v.natAbs * 2 ^ (tS - b) * 2 ^ b := by rw [Nat.mul_assoc, ← Nat.pow_add, show tS - b + b = tS by omega]
        rw [e3] at e1
        exact Nat.eq_of_mul_eq_mul_right (Nat.two_pow_pos b) e1
      have hle : v.natAbs ≤ m := by
        rw [e2]; exact Nat.le_mul_of_pos_right _ (Nat.two_pow_pos _)
      have := rndN_exact (p := 52) (n := v.natAbs) (Nat.lt_of_le_of_lt hle (Nat.lt_of_lt_of_le hm (Nat.pow_le_pow_right (by decide) (by decide)))) 0
      rwa [Nat.pow_zero, Nat.mul_one] at this
  have hU : m * 2 ^ (b + (tD - tS)) = v.natAbs * 2 ^ (tD + 0) := by
    rw [Nat.pow_add, ← Nat.mul_assoc, e1, Nat.mul_assoc, ← Nat.pow_add]; congr 2; omega
  have hn := nearest_val stdD s m (b + (tD - tS)) 0 v.natAbs ((b : Int) - ((tS + 110 : Nat) : Int)) (by omega) hU (pow200 hb)
  have hval : sgnd s (rndN 52 v.natAbs) = v := by
    rw [hex]
    by_cases h0 : v = 0
    · subst h0; exact sgnd_zero s
    · rw [sign_of ex h0, sgnd_of]
  rw [hval] at hn
  have hd : FloatKind.f32.decode x = .number s m ((b : Int) - ((tS + 110 : Nat) : Int)) := rx
  refine ⟨double.nearest s m ((b : Int) - ((tS + 110 : Nat) : Int)), ?_, hn⟩
  obtain ⟨s2, m2, b2, r2, -⟩ := hn
  have hd2 : FloatKind.f64.decode (FloatKind.f64.encode (.number s m ((b : Int) - ((tS + 110 : Nat) : Int)))) = .number s2 m2 ((b2 : Int) - ((tD + 110 : Nat) : Int)) := r2
  unfold floatToFloatBits
  rw [if_neg (by decide), hd]
  simp only [hd2]
  simp [Datum.isInfinity]
  rfl
end Go.Proofs.Ytibhlaojinedoaa
/- Floats of both widths over their whole range: a finite word is a sign and a whole number of least floats; what an operation gives is the exact result, rounded once (rndN), down to the smallest floats. -/
namespace Go.Proofs.Ytibhlaojinedoaa
set_option maxRecDepth 20000
set_option linter.unusedVariables false
set_option linter.unusedSimpArgs false
open Ieee

def Fmt (f : Format) (p lo M : Nat) : Prop :=
  f.fractionBits = p ∧ f.leastPlace = -(lo : Int) ∧ f.binade = 2 ^ p ∧ f.infRung = M * 2 ^ p ∧ f.signWeight = (M + 1) * 2 ^ p ∧ 3 ≤ M ∧ 0 < p
/-- A datum that stands for V least floats, with a sign. -/
def Dv (lo : Nat) (d : Datum) (s : Bool) (V : Nat) : Prop := ∃ m b : Nat, d = .number s m ((b : Int) - (lo : Int)) ∧ m * 2 ^ b = V
def Fv (f : Format) (lo x : Nat) (s : Bool) (V : Nat) : Prop := Dv lo (f.read x) s V
theorem read_wordF {f : Format} {p lo M : Nat} (H : Fmt f p lo M) (neg : Bool) (rung : Nat) (h1 : 2 ^ p ≤ rung) (h2 : rung < M * 2 ^ p) :
    f.read (f.word neg rung) = .number neg (2 ^ p + rung % 2 ^ p) (-(lo : Int) + ((rung / 2 ^ p - 1 : Nat) : Int)) := by
  obtain ⟨-, hl, hb, hi, hs, -⟩ := H
  unfold Format.read Format.word
  rw [hl, hb, hi, hs]
  have h3 : rung < (M + 1) * 2 ^ p := by rw [Nat.add_mul]; omega
  generalize hS : (M + 1) * 2 ^ p = S at *
  have e1 : (if neg = true then S + rung else rung) % S = rung := by
    cases neg
    · simp only [Bool.false_eq_true, if_false]; exact Nat.mod_eq_of_lt h3
    · simp only [if_true]; rw [Nat.add_mod_left]; exact Nat.mod_eq_of_lt h3
  have e2 : ((if neg = true then S + rung else rung) / S % 2 == 1) = neg := by
    have hS0 : 0 < S := by omega
    cases neg
    · simp only [Bool.false_eq_true, if_false]; rw [Nat.div_eq_of_lt h3]; rfl
    · simp only [if_true]; rw [Nat.add_div_left _ hS0, Nat.div_eq_of_lt h3]; rfl
  simp only [e1, e2]
  rw [if_neg (by omega), if_pos h2]
theorem read_smallF {f : Format} {p lo M : Nat} (H : Fmt f p lo M) (neg : Bool) (rung : Nat) (h : rung < 2 ^ p) : f.read (f.word neg rung) = .number neg rung (-(lo : Int)) := by
  obtain ⟨-, hl, hb, hi, hs, hM, -⟩ := H
  unfold Format.read Format.word
  rw [hl, hb, hs]
  have h3 : rung < (M + 1) * 2 ^ p := by
    have : 1 * 2 ^ p ≤ (M + 1) * 2 ^ p := Nat.mul_le_mul_right _ (by omega)
    omega
  generalize (M + 1) * 2 ^ p = S at *
  have e1 : (if neg = true then S + rung else rung) % S = rung := by
    cases neg
    · simp only [Bool.false_eq_true, if_false]; exact Nat.mod_eq_of_lt h3
    · simp only [if_true]; rw [Nat.add_mod_left]; exact Nat.mod_eq_of_lt h3
  have e2 : ((if neg = true then S + rung else rung) / S % 2 == 1) = neg := by
    have hS0 : 0 < S := by omega
    cases neg
    · simp only [Bool.false_eq_true, if_false]; rw [Nat.div_eq_of_lt h3]; rfl
    · simp only [if_true]; rw [Nat.add_div_left _ hS0, Nat.div_eq_of_lt h3]; rfl
  simp only [e1, e2]
  rw [if_pos h]
theorem read_shape {f : Format} {p lo M : Nat} (H : Fmt f p lo M) {x m : Nat} {s : Bool} {e : Int} (h : f.read x = .number s m e) : ∃ b : Nat, e = (b : Int) - (lo : Int) ∧ m < 2 ^ (p + 1) ∧ b + 2 ≤ M := by
  obtain ⟨-, hl, hb, hi, -, hM, -⟩ := H
  have hp : 0 < 2 ^ p := Nat.two_pow_pos p
  unfold Format.read at h
  rw [hb, hi, hl] at h
  rw [Nat.pow_succ]
  simp only at h
  split at h
  · rename_i h1
    injection h with _ e2 e3
    exact ⟨0, by omega, by omega, by omega⟩
  · split at h
    · rename_i h1 h2
      injection h with _ e2 e3
      have h4 := Nat.mod_lt (x % f.signWeight) hp
      have h5 : x % f.signWeight / 2 ^ p < M := (Nat.div_lt_iff_lt_mul hp).2 h2
      have h6 : 1 ≤ x % f.signWeight / 2 ^ p := (Nat.le_div_iff_mul_le hp).2 (by omega)
      exact ⟨x % f.signWeight / 2 ^ p - 1, by omega, by omega, by omega⟩
    · split at h <;> cases h
/-- A word is finite, an infinity or a NaN. -/
theorem read_cases {f : Format} {p lo M : Nat} (H : Fmt f p lo M) (x : Nat) : (∃ s V, Fv f lo x s V) ∨ (∃ s, f.read x = .infinity s) ∨ (∃ s t, f.read x = .nan s t) := by
  cases h : f.read x with
  | number s m e =>
    obtain ⟨b, he, -, -⟩ := read_shape H h
    exact .inl ⟨s, m * 2 ^ b, m, b, by rw [h, he], rfl⟩
  | infinity s => exact .inr (.inl ⟨s, rfl⟩)
  | nan s t => exact .inr (.inr ⟨s, t, rfl⟩)
theorem pow_joined (a b : Nat) : (2 : Nat) ^ a * 2 ^ b = 2 ^ (a + b) := (Nat.pow_add 2 a b).symm
theorem fv_lt {f : Format} {p lo M : Nat} (H : Fmt f p lo M) {x V : Nat} {s : Bool} (h : Fv f lo x s V) : V < 2 ^ (M + p - 1) := by
  obtain ⟨m, b, hr, rfl⟩ := h
  obtain ⟨b', e, hm, hb⟩ := read_shape H hr
  obtain rfl : b' = b := by omega
  have h1 : m * 2 ^ b' < 2 ^ (p + 1) * 2 ^ b' := Nat.mul_lt_mul_of_pos_right hm (Nat.two_pow_pos _)
  rw [pow_joined] at h1
  have h2 : (2 : Nat) ^ (p + 1 + b') ≤ 2 ^ (M + p - 1) := Nat.pow_le_pow_right (by decide) (by omega)
  omega
theorem fv_fit {f : Format} {p lo M : Nat} (H : Fmt f p lo M) {x V : Nat} {s : Bool} (h : Fv f lo x s V) : rndN p V = V := by
  obtain ⟨m, b, hr, rfl⟩ := h
  obtain ⟨b', e, hm, hb⟩ := read_shape H hr
  exact rndN_exact hm b
theorem rndN_scale (p n k : Nat) : rndN p (n * 2 ^ k) = rndN p n * 2 ^ k := by
  rcases Nat.eq_zero_or_pos n with rfl | hn
  · rw [Nat.zero_mul, rndN_zero, Nat.zero_mul]
  · unfold rndN
    rw [log2_up hn k]
    by_cases h : p ≤ n.log2
    · rw [show n.log2 + k - p = n.log2 - p + k by omega, cutN_scale, Nat.pow_add, Nat.mul_assoc]
    · have e := rndN_exact (p := p) (n := n) (by
        have := Nat.lt_log2_self (n := n)
        exact Nat.lt_of_lt_of_le this (Nat.pow_le_pow_right (by decide) (by omega))) k
      unfold rndN at e
      rw [log2_up hn k] at e
      rw [e, show n.log2 - p = 0 by omega, cutN_zero, Nat.pow_zero, Nat.mul_one]
/-- The rounded number is none too great for the format. -/
def Fits (p M V : Nat) : Prop := (V.log2 - p) * 2 ^ p + cutN V (V.log2 - p) < M * 2 ^ p
theorem cut_full {p V : Nat} (h : p ≤ V.log2) (hV : 0 < V) : 2 ^ p ≤ cutN V (V.log2 - p) ∧ cutN V (V.log2 - p) ≤ 2 ^ (p + 1) := by
  have l1 : 2 ^ V.log2 ≤ V := Nat.log2_self_le (by omega)
  have l2 : V < 2 ^ (V.log2 + 1) := Nat.lt_log2_self
  refine cutN_full ?_ ?_
  · rw [show p + (V.log2 - p) = V.log2 by omega]; exact l1
  · rw [show p + 1 + (V.log2 - p) = V.log2 + 1 by omega]; exact l2
theorem small_of_log {p V : Nat} (h : V.log2 < p) : V < 2 ^ p := Nat.lt_of_lt_of_le Nat.lt_log2_self (Nat.pow_le_pow_right (by decide) h)
theorem fits_small {p M V : Nat} (hM : 3 ≤ M) (h : V.log2 + 3 ≤ M + p) : Fits p M V := by
  have hp : 0 < 2 ^ p := Nat.two_pow_pos p
  unfold Fits
  by_cases hc : p ≤ V.log2 ∧ 0 < V
  · obtain ⟨-, f2⟩ := cut_full hc.1 hc.2
    rw [Nat.pow_succ] at f2
    have h1 : (V.log2 - p + 3) * 2 ^ p ≤ M * 2 ^ p := Nat.mul_le_mul_right _ (by omega)
    rw [Nat.add_mul] at h1
    omega
  · have h3 : V < 2 ^ p ∧ V.log2 - p = 0 := by
      rcases Nat.eq_zero_or_pos V with rfl | hV
      · refine ⟨hp, ?_⟩
        rw [show Nat.log2 0 = 0 by decide]; omega
      · have : V.log2 < p := by omega
        exact ⟨small_of_log this, by omega⟩
    rw [h3.2, cutN_zero]
    have h1 : 3 * 2 ^ p ≤ M * 2 ^ p := Nat.mul_le_mul_right _ hM
    omega
theorem fits_exact {p M V : Nat} (hM : 3 ≤ M) (h : rndN p V = V) (h2 : V < 2 ^ (M + p - 1)) : Fits p M V := by
  have hp : 0 < 2 ^ p := Nat.two_pow_pos p
  by_cases hc : V.log2 + 3 ≤ M + p
  · exact fits_small hM hc
  · have hV : 0 < V := by
      rcases Nat.eq_zero_or_pos V with rfl | hV
      · rw [show Nat.log2 0 = 0 by decide] at hc; omega
      · exact hV
    have hl : V.log2 < M + p - 1 := (Nat.log2_lt (by omega)).2 h2
    unfold Fits
    unfold rndN at h
    have hq : V.log2 - p = M - 2 := by omega
    have l2 : V < 2 ^ (V.log2 + 1) := Nat.lt_log2_self
    rw [hq] at h ⊢
    have hk : cutN V (M - 2) < 2 ^ (p + 1) := by
      have l3 : cutN V (M - 2) * 2 ^ (M - 2) < 2 ^ (V.log2 + 1) := by rw [h]; exact l2
      rw [show V.log2 + 1 = p + 1 + (M - 2) by omega, Nat.pow_add] at l3
      exact Nat.lt_of_mul_lt_mul_right l3
    rw [Nat.pow_succ] at hk
    have h1 : (M - 2 + 2) * 2 ^ p = M * 2 ^ p := by rw [show M - 2 + 2 = M by omega]
    rw [Nat.add_mul] at h1
    omega
/-- What is written is the number, rounded once. -/
theorem near_fv {f : Format} {p lo M : Nat} (H : Fmt f p lo M) (neg : Bool) (mag b j V : Nat) (place : Int) (hpl : place = (b : Int) - (lo : Int) - (j : Int)) (hX : mag * 2 ^ b = V * 2 ^ j) (hV : Fits p M V) :
    Fv f lo (f.nearest neg mag place) neg (rndN p V) := by
  have H0 := H
  obtain ⟨hf, hl, hb, hi, hs, hM, hp0⟩ := H
  have hpp : 0 < 2 ^ p := Nat.two_pow_pos p
  rcases Nat.eq_zero_or_pos mag with rfl | hm
  · have hV0 : V = 0 := by
      rw [Nat.zero_mul] at hX
      rcases Nat.mul_eq_zero.1 hX.symm with h | h
      · exact h
      · exact absurd h (Nat.ne_of_gt (Nat.two_pow_pos _))
    subst hV0
    unfold Format.nearest
    rw [if_pos rfl, rndN_zero]
    refine ⟨0, 0, ?_, by rw [Nat.zero_mul]⟩
    rw [read_smallF H0 neg 0 hpp]; simp
  · have hV0 : 0 < V := by
      rcases Nat.eq_zero_or_pos V with rfl | h
      · rw [Nat.zero_mul] at hX; exact absurd hX (Nat.ne_of_gt (Nat.mul_pos hm (Nat.two_pow_pos b)))
      · exact h
    have hL : b + mag.log2 = V.log2 + j := by
      have := congrArg Nat.log2 hX
      rw [log2_up hm, log2_up hV0] at this; omega
    obtain ⟨q, hq⟩ : ∃ q, q = V.log2 - p := ⟨_, rfl⟩
    have hlast : max (place + (mag.log2 : Int) - (f.fractionBits : Nat)) f.leastPlace = (q : Int) - (lo : Int) := by
      rw [hf, hl]; omega
    have hcut : Toward.even.cut neg (mag <<< (b - (j + q))) (j + q - b) = cutN V q := by
      have hz : cutN (mag * 2 ^ b) (q + j) = cutN V q := by rw [hX, cutN_scale]
      have hml : (mag <<< (b - (j + q))).log2 = mag.log2 + (b - (j + q)) := by rw [Nat.shiftLeft_eq, log2_up hm]
      rw [cut_cutN _ _ _ (by rw [hml]; omega), ← hz, Nat.shiftLeft_eq]
      by_cases hc : j + q ≤ b
      · rw [show j + q - b = 0 by omega, cutN_zero]
        have e : mag * 2 ^ b = mag * 2 ^ (b - (j + q)) * 2 ^ (q + j) := by rw [Nat.mul_assoc, ← Nat.pow_add, show b - (j + q) + (q + j) = b by omega]
        rw [e, cutN_scale0]
      · rw [show b - (j + q) = 0 by omega, Nat.pow_zero, Nat.mul_one]
        have := cutN_scale mag b (j + q - b)
        rw [show j + q - b + b = q + j by omega] at this
        exact this.symm
    have hn : f.nearest neg mag place = f.word neg (min (q * 2 ^ p + cutN V q) (M * 2 ^ p)) := by
      unfold Format.nearest
      rw [if_neg (by omega)]
      simp only [hb, hi]
      rw [hlast, hl, hpl]
      rw [show ((b : Int) - (lo : Int) - (j : Int) - ((q : Int) - (lo : Int))).toNat = b - (j + q) by omega, show ((q : Int) - (lo : Int) - ((b : Int) - (lo : Int) - (j : Int))).toNat = j + q - b by omega, show ((q : Int) - (lo : Int) - -(lo : Int)).toNat = q by omega, hcut]
    unfold Fits at hV
    rw [← hq] at hV
    rw [hn, Nat.min_eq_left (Nat.le_of_lt hV)]
    have hval : rndN p V = cutN V q * 2 ^ q := by unfold rndN; rw [← hq]
    rw [hval]
    by_cases hc : V.log2 < p
    · have hq0 : q = 0 := by omega
      subst hq0
      have := small_of_log hc
      rw [cutN_zero, Nat.zero_mul, Nat.zero_add, Nat.pow_zero, Nat.mul_one]
      refine ⟨V, 0, ?_, by rw [Nat.pow_zero, Nat.mul_one]⟩
      rw [read_smallF H0 neg V this]; simp
    · obtain ⟨f1, f2⟩ := cut_full (p := p) (V := V) (by omega) hV0
      rw [← hq] at f1 f2
      generalize cutN V q = k at *
      have f2' : k ≤ 2 * 2 ^ p := by rw [Nat.pow_succ] at f2; omega
      have hr := read_wordF H0 neg (q * 2 ^ p + k) (by omega) hV
      unfold Fv
      rw [hr]
      by_cases hk : k < 2 * 2 ^ p
      · refine ⟨k, q, ?_, rfl⟩
        have e1 : (q * 2 ^ p + k) % 2 ^ p = k - 2 ^ p := by
          rw [Nat.mul_comm, Nat.mul_add_mod]
          rw [show k = (k - 2 ^ p) + 2 ^ p by omega, Nat.add_mod_right, Nat.mod_eq_of_lt (by omega)]; omega
        have e2 : (q * 2 ^ p + k) / 2 ^ p = q + 1 := by
          rw [Nat.mul_comm, Nat.mul_add_div hpp, show k / 2 ^ p = 1 by rw [Nat.div_eq_iff hpp]; omega]
        rw [e1, e2]
        congr 1
        · omega
        · omega
      · have hk2 : k = 2 * 2 ^ p := by omega
        refine ⟨2 ^ p, q + 1, ?_, ?_⟩
        · have e1 : (q * 2 ^ p + k) % 2 ^ p = 0 := by rw [hk2, ← Nat.add_mul, Nat.mul_mod_left]
          have e2 : (q * 2 ^ p + k) / 2 ^ p = q + 2 := by rw [hk2, ← Nat.add_mul, Nat.mul_div_cancel _ hpp]
          rw [e1, e2]
          congr 1
          omega
        · rw [hk2, Nat.pow_succ, Nat.mul_comm (2 ^ q) 2, ← Nat.mul_assoc, Nat.mul_comm (2 ^ p) 2]
theorem cmp_scale (a c : Int) (b : Nat) : compare (a * 2 ^ b) (c * 2 ^ b) = compare a c := by
  have hp := two_powI b
  rcases Int.lt_trichotomy a c with h | h | h
  · rw [Int.compare_eq_lt.2 h, Int.compare_eq_lt.2 (Int.mul_lt_mul_of_pos_right h hp)]
  · subst h; rw [Int.compare_eq_eq.2 rfl, Int.compare_eq_eq.2 rfl]
  · rw [Int.compare_eq_gt.2 h, Int.compare_eq_gt.2 (Int.mul_lt_mul_of_pos_right h hp)]
theorem signed_sgnd (s : Bool) (m k : Nat) : signed s m k = sgnd s (m * 2 ^ k) := by simp [signed, sgnd, Nat.shiftLeft_eq]
/-- How two words stand to each other. -/
theorem fv_order {f : Format} {lo x y V W : Nat} {s t : Bool} (hx : Fv f lo x s V) (hy : Fv f lo y t W) : f.order x y = some (compare (sgnd s V) (sgnd t W)) := by
  obtain ⟨m, i, rx, rfl⟩ := hx
  obtain ⟨n, j, ry, rfl⟩ := hy
  obtain ⟨b, hbm⟩ : ∃ b, b = min i j := ⟨_, rfl⟩
  have hbase : min ((i : Int) - (lo : Int)) ((j : Int) - (lo : Int)) = (b : Int) - (lo : Int) := by omega
  unfold Format.order
  rw [rx, ry]
  simp only [Datum.order, hbase]
  rw [signed_sgnd, signed_sgnd, show ((i : Int) - (lo : Int) - ((b : Int) - (lo : Int))).toNat = i - b by omega, show ((j : Int) - (lo : Int) - ((b : Int) - (lo : Int))).toNat = j - b by omega]
  rw [← cmp_scale (sgnd s (m * 2 ^ (i - b))) (sgnd t (n * 2 ^ (j - b))) b, ← cast_powI b, sgnd_mul, sgnd_mul, Nat.mul_assoc, Nat.mul_assoc, ← Nat.pow_add, ← Nat.pow_add, show i - b + b = i by omega, show j - b + b = j by omega]
/-- A sum, rounded once. -/
theorem sum_fv {f : Format} {p lo M : Nat} (H : Fmt f p lo M) {x y : Datum} {V W : Nat} {s t : Bool} (hx : Dv lo x s V) (hy : Dv lo y t W) (hb : Fits p M (sgnd s V + sgnd t W).natAbs) :
    ∃ z, (x.sum y).map f.write = some z ∧ Fv f lo z (if sgnd s V + sgnd t W = 0 then s && t else decide (sgnd s V + sgnd t W < 0)) (rndN p (sgnd s V + sgnd t W).natAbs) := by
  obtain ⟨m, i, rfl, rfl⟩ := hx
  obtain ⟨n, j, rfl, rfl⟩ := hy
  obtain ⟨b, hbm⟩ : ∃ b, b = min i j := ⟨_, rfl⟩
  have hbase : min ((i : Int) - (lo : Int)) ((j : Int) - (lo : Int)) = (b : Int) - (lo : Int) := by omega
  obtain ⟨T, hT⟩ : ∃ T, T = sgnd s (m * 2 ^ (i - b)) + sgnd t (n * 2 ^ (j - b)) := ⟨_, rfl⟩
  have hTb : T * 2 ^ b = sgnd s (m * 2 ^ i) + sgnd t (n * 2 ^ j) := by
    rw [hT, Int.add_mul, ← cast_powI b, sgnd_mul, sgnd_mul, Nat.mul_assoc, Nat.mul_assoc, ← Nat.pow_add, ← Nat.pow_add, show i - b + b = i by omega, show j - b + b = j by omega]
  have hadd : ((Datum.number s m ((i : Int) - (lo : Int))).sum (.number t n ((j : Int) - (lo : Int)))).map f.write = some (f.nearest (if T = 0 then s && t else decide (T < 0)) T.natAbs ((b : Int) - (lo : Int))) := by
    simp only [Datum.sum, Option.map_some, hbase]
    rw [signed_sgnd, signed_sgnd, show ((i : Int) - (lo : Int) - ((b : Int) - (lo : Int))).toNat = i - b by omega, show ((j : Int) - (lo : Int) - ((b : Int) - (lo : Int))).toNat = j - b by omega, ← hT]
    rfl
  rw [← hTb] at hb ⊢
  have hU : T.natAbs * 2 ^ b = (T * 2 ^ b).natAbs * 2 ^ 0 := by
    rw [Int.natAbs_mul, Int.natAbs_pow, Nat.pow_zero, Nat.mul_one]; rfl
  have hpb := two_powI b
  have hs : (if T * 2 ^ b = 0 then s && t else decide (T * 2 ^ b < 0)) = (if T = 0 then s && t else decide (T < 0)) := by
    rcases Int.lt_trichotomy T 0 with h | h | h
    · have h4 := Int.mul_neg_of_neg_of_pos h hpb
      rw [if_neg (by omega), if_neg (by omega), decide_eq_decide]; omega
    · subst h; rw [Int.zero_mul]
    · have h4 := Int.mul_pos h hpb
      rw [if_neg (by omega), if_neg (by omega), decide_eq_decide]; omega
  rw [hs]
  exact ⟨_, hadd, near_fv H _ T.natAbs b 0 _ _ (by omega) hU hb⟩
theorem opp_dv {lo : Nat} {x : Datum} {s : Bool} {V : Nat} (h : Dv lo x s V) : Dv lo x.opposite (!s) V := by
  obtain ⟨m, b, rfl, e⟩ := h
  exact ⟨m, b, rfl, e⟩
theorem add_fv {f : Format} {p lo M : Nat} (H : Fmt f p lo M) {x y V W : Nat} {s t : Bool} (hx : Fv f lo x s V) (hy : Fv f lo y t W) (hb : Fits p M (sgnd s V + sgnd t W).natAbs) :
    ∃ z, f.add x y = some z ∧ Fv f lo z (if sgnd s V + sgnd t W = 0 then s && t else decide (sgnd s V + sgnd t W < 0)) (rndN p (sgnd s V + sgnd t W).natAbs) := sum_fv H hx hy hb
theorem sub_fv {f : Format} {p lo M : Nat} (H : Fmt f p lo M) {x y V W : Nat} {s t : Bool} (hx : Fv f lo x s V) (hy : Fv f lo y t W) (hb : Fits p M (sgnd s V - sgnd t W).natAbs) :
    ∃ z, f.sub x y = some z ∧ Fv f lo z (if sgnd s V - sgnd t W = 0 then s && !t else decide (sgnd s V - sgnd t W < 0)) (rndN p (sgnd s V - sgnd t W).natAbs) := by
  have e : sgnd s V - sgnd t W = sgnd s V + sgnd (!t) W := by rw [sgnd_neg]; omega
  rw [e] at hb ⊢
  exact sum_fv H hx (opp_dv hy) hb
/-- A number times a power of two: exact. -/
theorem scale_fv {f : Format} {p lo M : Nat} (H : Fmt f p lo M) {x y V k : Nat} {s : Bool} (hx : Fv f lo x s V) (hy : f.read y = .number false (2 ^ p) ((k : Int) - (p : Int))) (hb : V * 2 ^ k < 2 ^ (M + p - 1)) :
    ∃ z, f.mul x y = some z ∧ Fv f lo z s (V * 2 ^ k) := by
  have hfit := fv_fit H hx
  have hM := H.2.2.2.2.2.1
  obtain ⟨m, i, rx, rfl⟩ := hx
  have hmul : f.mul x y = some (f.nearest (s ^^ false) (m * 2 ^ p) ((i : Int) - (lo : Int) + ((k : Int) - (p : Int)))) := by
    unfold Format.mul
    rw [rx, hy]; rfl
  refine ⟨_, hmul, ?_⟩
  have hr : rndN p (m * 2 ^ i * 2 ^ k) = m * 2 ^ i * 2 ^ k := by rw [rndN_scale, hfit]
  have hn := near_fv H (s ^^ false) (m * 2 ^ p) (i + k) p (m * 2 ^ i * 2 ^ k) ((i : Int) - (lo : Int) + ((k : Int) - (p : Int))) (by omega) (by
    rw [Nat.pow_add]
    generalize 2 ^ p = P
    generalize 2 ^ i = Q
    generalize 2 ^ k = R
    simp only [Nat.mul_assoc, Nat.mul_left_comm, Nat.mul_comm]) (fits_exact hM hr hb)
  rw [hr, Bool.xor_false] at hn
  rw [Bool.xor_false]
  exact hn
/-- A whole number as a float. -/
theorem int_fv {f : Format} {p lo M : Nat} (H : Fmt f p lo M) (c : Int) (hb : Fits p M (c.natAbs * 2 ^ lo)) : Fv f lo (f.write (.number (decide (c < 0)) c.natAbs 0)) (decide (c < 0)) (rndN p c.natAbs * 2 ^ lo) := by
  rw [← rndN_scale]
  exact near_fv H (decide (c < 0)) c.natAbs lo 0 (c.natAbs * 2 ^ lo) 0 (by omega) (by rw [Nat.pow_zero, Nat.mul_one]) hb
/-! ### Whole parts -/
theorem shift_div (m b lo : Nat) : (m <<< (b - lo)) / 2 ^ (lo - b) = m * 2 ^ b / 2 ^ lo := by
  rw [Nat.shiftLeft_eq]
  rcases Nat.le_total lo b with h | h
  · have e : m * 2 ^ b = m * 2 ^ (b - lo) * 2 ^ lo := by rw [Nat.mul_assoc, ← Nat.pow_add, show b - lo + lo = b by omega]
    rw [show lo - b = 0 by omega, Nat.pow_zero, Nat.div_one, e, Nat.mul_div_cancel _ (Nat.two_pow_pos lo)]
  · have e : (2 : Nat) ^ lo = 2 ^ (lo - b) * 2 ^ b := by rw [← Nat.pow_add, show lo - b + b = lo by omega]
    rw [show b - lo = 0 by omega, Nat.pow_zero, Nat.mul_one, e, Nat.mul_div_mul_right _ _ (Nat.two_pow_pos b)]
theorem shift_rest (m b lo : Nat) : ((m <<< (b - lo)) % 2 ^ (lo - b) = 0) ↔ m * 2 ^ b % 2 ^ lo = 0 := by
  rw [Nat.shiftLeft_eq]
  rcases Nat.le_total lo b with h | h
  · have e : m * 2 ^ b = m * 2 ^ (b - lo) * 2 ^ lo := by rw [Nat.mul_assoc, ← Nat.pow_add, show b - lo + lo = b by omega]
    rw [show lo - b = 0 by omega, Nat.pow_zero, Nat.mod_one, e, Nat.mul_mod_left]
  · have e : (2 : Nat) ^ lo = 2 ^ (lo - b) * 2 ^ b := by rw [← Nat.pow_add, show lo - b + b = lo by omega]
    rw [show b - lo = 0 by omega, Nat.pow_zero, Nat.mul_one, e, Nat.mul_mod_mul_right]
    have := Nat.two_pow_pos b
    constructor
    · intro h; rw [h, Nat.zero_mul]
    · intro h
      rcases Nat.mul_eq_zero.1 h with h | h
      · exact h
      · omega
theorem gap_div (n d : Nat) : n / (1 <<< min d (n.log2 + 2)) = n / 2 ^ d ∧ (n % (1 <<< min d (n.log2 + 2)) = 0 ↔ n % 2 ^ d = 0) := by
  rw [Nat.shiftLeft_eq, Nat.one_mul]
  rcases Nat.le_total d (n.log2 + 2) with h | h
  · rw [Nat.min_eq_left h]; exact ⟨rfl, Iff.rfl⟩
  · rw [Nat.min_eq_right h]
    have l2 : n < 2 ^ (n.log2 + 1) := Nat.lt_log2_self
    have l3 : n < 2 ^ (n.log2 + 2) := Nat.lt_of_lt_of_le l2 (Nat.pow_le_pow_right (by decide) (by omega))
    have l4 : n < 2 ^ d := Nat.lt_of_lt_of_le l3 (Nat.pow_le_pow_right (by decide) h)
    rw [Nat.div_eq_of_lt l3, Nat.div_eq_of_lt l4, Nat.mod_eq_of_lt l3, Nat.mod_eq_of_lt l4]
    exact ⟨rfl, Iff.rfl⟩
/-- The whole part of a size, one more for a negative number with a rest. -/
def flN (lo : Nat) (s : Bool) (V : Nat) : Nat := V / 2 ^ lo + (s && V % 2 ^ lo != 0).toNat
theorem flN_eq (lo : Nat) (s : Bool) (V : Nat) : sgnd s (flN lo s V) = sgnd s V / 2 ^ lo := by
  have hp := two_powI lo
  have hc := cast_powI lo
  have hd := Nat.div_add_mod V (2 ^ lo)
  have hr := Nat.mod_lt V (Nat.two_pow_pos lo)
  unfold flN
  cases s
  · simp only [sgnd, Bool.false_and, Bool.toNat_false, Nat.add_zero, Bool.false_eq_true, if_false]
    rw [← hc, Int.natCast_ediv]
  · simp only [sgnd, Bool.true_and, if_true]
    symm
    have e : ((V : Nat) : Int) = 2 ^ lo * ((V / 2 ^ lo : Nat) : Int) + ((V % 2 ^ lo : Nat) : Int) := by
      rw [← hc, ← Int.natCast_mul, ← Int.natCast_add, hd]
    have hr' : ((V % 2 ^ lo : Nat) : Int) < 2 ^ lo := by rw [← hc]; omega
    rw [e]
    generalize V / 2 ^ lo = q at *
    generalize V % 2 ^ lo = r at *
    generalize (2 : Int) ^ lo = G at *
    by_cases h0 : r = 0
    · subst h0
      simp only [bne_self_eq_false, Bool.toNat_false, Nat.add_zero]
      rw [show -(G * (q : Int) + ((0 : Nat) : Int)) = -(q : Int) * G by rw [Int.neg_mul, Int.mul_comm G]; omega]
      exact Int.mul_ediv_cancel _ (by omega)
    · rw [show (r != 0) = true by simp [h0]]
      simp only [Bool.toNat_true]
      rw [show -(G * (q : Int) + (r : Int)) = (G - (r : Int)) + -((q : Int) + 1) * G by rw [Int.neg_mul, Int.add_mul, Int.mul_comm G]; omega]
      rw [Int.add_mul_ediv_right _ _ (by omega), Int.ediv_eq_zero_of_lt (by omega) (by omega)]
      omega
theorem down_fv {lo V : Nat} {d : Datum} {s : Bool} (h : Dv lo d s V) : d.integral .down = .number s (flN lo s V) 0 := by
  obtain ⟨m, b, rfl, rfl⟩ := h
  unfold Datum.integral flN
  simp only
  rw [show ((b : Int) - (lo : Int)).toNat = b - lo by omega, show (-((b : Int) - (lo : Int))).toNat = lo - b by omega]
  have g1 := gap_div (m <<< (b - lo)) (lo - b)
  have d1 := shift_div m b lo
  have r1 := shift_rest m b lo
  unfold Toward.cut
  simp only [g1.1, d1]
  have e : (m <<< (b - lo) % 1 <<< min (lo - b) ((m <<< (b - lo)).log2 + 2) != 0) = (m * 2 ^ b % 2 ^ lo != 0) := by
    rw [Bool.eq_iff_iff]
    simp only [bne_iff_ne, ne_eq]
    rw [g1.2, r1]
  rw [e]
theorem zero_fv {lo V : Nat} {d : Datum} {s : Bool} (h : Dv lo d s V) : d.toInt .zero = some (sgnd s (V / 2 ^ lo)) := by
  obtain ⟨m, b, rfl, rfl⟩ := h
  unfold Datum.toInt Datum.integral
  simp only
  rw [show ((b : Int) - (lo : Int)).toNat = b - lo by omega, show (-((b : Int) - (lo : Int))).toNat = lo - b by omega]
  have g1 := gap_div (m <<< (b - lo)) (lo - b)
  have d1 := shift_div m b lo
  unfold Toward.cut
  simp only [g1.1, d1, Bool.toNat_false, Nat.add_zero]
  rw [signed_sgnd, Nat.pow_zero, Nat.mul_one]
/-! ### The two formats -/
def loS : Nat := 149
def loD : Nat := 1074
def gapSD : Nat := 925
theorem lo_gap : loD = loS + gapSD := rfl
theorem loS_eq : loS = 149 := rfl
theorem loD_eq : loD = 1074 := rfl
theorem gapSD_eq : gapSD = 925 := rfl
def topS : Nat := 255 + 23 - 1
def topD : Nat := 2047 + 52 - 1
theorem topS_eq : topS = 255 + 23 - 1 := rfl
theorem topD_eq : topD = 2047 + 52 - 1 := rfl
attribute [irreducible] loS loD gapSD topS topD
theorem fmtS : Fmt single 23 loS 255 := by
  refine ⟨rfl, ?_, by decide, by decide, by decide, by decide, by decide⟩
  rw [loS_eq]; decide
theorem fmtD : Fmt double 52 loD 2047 := by
  refine ⟨rfl, ?_, by decide, by decide, by decide, by decide, by decide⟩
  rw [loD_eq]; decide
abbrev FS (x : Nat) (s : Bool) (V : Nat) : Prop := Fv single loS x s V
abbrev FD (x : Nat) (s : Bool) (V : Nat) : Prop := Fv double loD x s V
theorem log_of_lt {V n : Nat} (h : V < 2 ^ n) (hn : 0 < n) : V.log2 < n := by
  rcases Nat.eq_zero_or_pos V with rfl | hV
  · rw [show Nat.log2 0 = 0 by decide]; exact hn
  · exact (Nat.log2_lt (by omega)).2 h
theorem fs_lt {x V : Nat} {s : Bool} (h : FS x s V) : V < 2 ^ topS := by rw [topS_eq]; exact fv_lt fmtS h
theorem fs_fit {x V : Nat} {s : Bool} (h : FS x s V) : rndN 23 V = V := fv_fit fmtS h
theorem fit_wider {V : Nat} (h : rndN 23 V = V) : rndN 52 V = V := by
  have e : cutN V (V.log2 - 23) * 2 ^ (V.log2 - 23) = V := h
  rcases Nat.eq_zero_or_pos V with rfl | hV
  · exact rndN_zero 52
  by_cases hc : 23 ≤ V.log2
  · have hk := (cut_full (p := 23) hc hV).2
    have := rndN_exact (p := 52) (n := cutN V (V.log2 - 23)) (Nat.lt_of_le_of_lt hk (by decide)) (V.log2 - 23)
    rwa [e] at this
  · have h1 := small_of_log (p := 23) (V := V) (by omega)
    have := rndN_exact (p := 52) (n := V) (Nat.lt_trans h1 (by decide)) 0
    rwa [Nat.pow_zero, Nat.mul_one] at this
/-- A finite float of 32 bits as one of 64 bits. -/
theorem fs_wider {x V : Nat} {s : Bool} (hx : FS x s V) : ∃ z, floatToFloatBits .f32 x .f64 = some z ∧ FD z s (V * 2 ^ gapSD) := by
  have hl := fs_lt hx
  have hfit : rndN 52 (V * 2 ^ gapSD) = V * 2 ^ gapSD := by rw [rndN_scale, fit_wider (fs_fit hx)]
  have g := lo_gap
  have hlog : (V * 2 ^ gapSD).log2 + 3 ≤ 2047 + 52 := by
    rcases Nat.eq_zero_or_pos V with rfl | hV
    · rw [Nat.zero_mul, show Nat.log2 0 = 0 by decide]; omega
    · rw [log2_up hV]
      have h1 := log_of_lt hl (by rw [topS_eq]; omega)
      rw [topS_eq] at h1
      rw [gapSD_eq]; omega
  obtain ⟨m, b, rx, rfl⟩ := hx
  have hn := near_fv fmtD s m (b + gapSD) 0 (m * 2 ^ b * 2 ^ gapSD) ((b : Int) - (loS : Int)) (by omega) (by rw [Nat.pow_add, Nat.pow_zero, Nat.mul_one, Nat.mul_assoc]) (fits_small (by decide) hlog)
  rw [hfit] at hn
  have hd : FloatKind.f32.decode x = .number s m ((b : Int) - (loS : Int)) := rx
  refine ⟨double.nearest s m ((b : Int) - (loS : Int)), ?_, hn⟩
  obtain ⟨m2, b2, r2, -⟩ := hn
  have hd2 : FloatKind.f64.decode (FloatKind.f64.encode (.number s m ((b : Int) - (loS : Int)))) = .number s m2 ((b2 : Int) - (loD : Int)) := r2
  unfold floatToFloatBits
  rw [if_neg (by decide), hd]
  simp only [hd2]
  simp [Datum.isInfinity]
  rfl
/-- Back again. -/
theorem fd_narrow {y V : Nat} {s : Bool} (hy : FD y s (V * 2 ^ gapSD)) (hV : rndN 23 V = V) (hl : V < 2 ^ topS) : ∃ z, floatToFloatBits .f64 y .f32 = some z ∧ FS z s V := by
  have g := lo_gap
  rw [topS_eq] at hl
  obtain ⟨m, b, ry, e⟩ := hy
  have hn := near_fv fmtS s m b gapSD V ((b : Int) - (loD : Int)) (by omega) e (fits_exact (by decide) hV hl)
  rw [hV] at hn
  have hd : FloatKind.f64.decode y = .number s m ((b : Int) - (loD : Int)) := ry
  refine ⟨single.nearest s m ((b : Int) - (loD : Int)), ?_, hn⟩
  obtain ⟨m2, b2, r2, -⟩ := hn
  have hd2 : FloatKind.f32.decode (FloatKind.f32.encode (.number s m ((b : Int) - (loD : Int)))) = .number s m2 ((b2 : Int) - (loS : Int)) := r2
  unfold floatToFloatBits
  rw [if_neg (by decide), hd]
  simp only [hd2]
  simp [Datum.isInfinity]
  rfl
end Go.Proofs.Ytibhlaojinedoaa
/- The roots' words in both widths, what they stand for; sums of eight terms, rounded term by term and sum by sum. -/
namespace Go.Proofs.Ytibhlaojinedoaa
set_option maxRecDepth 20000
set_option linter.unusedVariables false
set_option linter.unusedSimpArgs false
open Ieee

theorem zero_val {f : Format} {p lo t M : Nat} (H : Std f p lo t M) : Val f t 0 0 := by
  have h0 := read_zeroN H false
  have hw : f.word false 0 = 0 := by unfold Format.word; simp
  rw [hw] at h0
  have ht := H.2.2.2.2.2.1
  exact ⟨false, 0, 0, by rw [h0, ← ht]; simp, by rw [Nat.zero_mul, sgnd_zero, Int.zero_mul]⟩
def wDr : Nat → Nat
  | 0 => 4607182418800017408
  | 1 => 4606875505927962389
  | 2 => 4605975682916830378
  | 3 => 4604544271217802189
  | 4 => 4602678819172646912
  | 5 => 4598334089338226320
  | 6 => 0
  | _ => 13821706126193002128
def vDr : Nat → Int
  | 0 => 1298074214633706907132624082305024
  | 1 => 1253843408354596754066294184083456
  | 2 => 1124165245870324036828141782564864
  | 3 => 917877079650896179172824953389056
  | 4 => 649037107316853453566312041152512
  | 5 => 335966328703700574893469230694400
  | 6 => 0
  | _ => -335966328703700574893469230694400
theorem rootDr : ∀ k, k < 8 → ValD (wDr k) (vDr k)
  | 0, _ => by exact const_val (f := double) false 4503599627370496 58 (-52) (by decide) (by decide +kernel)
  | 1, _ => by exact const_val (f := double) false 8700286382685973 57 (-53) (by decide) (by decide +kernel)
  | 2, _ => by exact const_val (f := double) false 7800463371553962 57 (-53) (by decide) (by decide +kernel)
  | 3, _ => by exact const_val (f := double) false 6369051672525773 57 (-53) (by decide) (by decide +kernel)
  | 4, _ => by exact const_val (f := double) false 4503599627370496 57 (-53) (by decide) (by decide +kernel)
  | 5, _ => by exact const_val (f := double) false 4662469420320400 56 (-54) (by decide) (by decide +kernel)
  | 6, _ => by exact zero_val stdD
  | 7, _ => by exact const_val (f := double) true 4662469420320400 56 (-54) (by decide) (by decide +kernel)
  | k + 8, h => absurd h (by omega)
theorem sizeDr (k : Nat) : -1298074214633706907132624082305024 ≤ vDr k ∧ vDr k ≤ 1298074214633706907132624082305024 := by
  unfold vDr; split <;> decide
def wDi : Nat → Nat
  | 0 => 0
  | 1 => 4598334089338226320
  | 2 => 4602678819172646912
  | 3 => 4604544271217802189
  | 4 => 4605975682916830378
  | 5 => 4606875505927962389
  | 6 => 4607182418800017408
  | _ => 4606875505927962389
def vDi : Nat → Int
  | 0 => 0
  | 1 => 335966328703700574893469230694400
  | 2 => 649037107316853453566312041152512
  | 3 => 917877079650896179172824953389056
  | 4 => 1124165245870324036828141782564864
  | 5 => 1253843408354596754066294184083456
  | 6 => 1298074214633706907132624082305024
  | _ => 1253843408354596754066294184083456
theorem rootDi : ∀ k, k < 8 → ValD (wDi k) (vDi k)
  | 0, _ => by exact zero_val stdD
  | 1, _ => by exact const_val (f := double) false 4662469420320400 56 (-54) (by decide) (by decide +kernel)
  | 2, _ => by exact const_val (f := double) false 4503599627370496 57 (-53) (by decide) (by decide +kernel)
  | 3, _ => by exact const_val (f := double) false 6369051672525773 57 (-53) (by decide) (by decide +kernel)
  | 4, _ => by exact const_val (f := double) false 7800463371553962 57 (-53) (by decide) (by decide +kernel)
  | 5, _ => by exact const_val (f := double) false 8700286382685973 57 (-53) (by decide) (by decide +kernel)
  | 6, _ => by exact const_val (f := double) false 4503599627370496 58 (-52) (by decide) (by decide +kernel)
  | 7, _ => by exact const_val (f := double) false 8700286382685973 57 (-53) (by decide) (by decide +kernel)
  | k + 8, h => absurd h (by omega)
theorem sizeDi (k : Nat) : -1298074214633706907132624082305024 ≤ vDi k ∧ vDi k ≤ 1298074214633706907132624082305024 := by
  unfold vDi; split <;> decide
def wSr : Nat → Nat
  | 0 => 1065353216
  | 1 => 1064781546
  | 2 => 1063105495
  | 3 => 1060439283
  | 4 => 1056964608
  | 5 => 1048871918
  | 6 => 0
  | _ => 3196355566
def vSr : Nat → Int
  | 0 => 1298074214633706907132624082305024
  | 1 => 1253843390742564823273150185734144
  | 2 => 1124165225693546017327840682311680
  | 3 => 917877063942098997734131695091712
  | 4 => 649037107316853453566312041152512
  | 5 => 335966326800465825539018490642432
  | 6 => 0
  | _ => -335966326800465825539018490642432
theorem rootSr : ∀ k, k < 8 → ValS (wSr k) (vSr k)
  | 0, _ => by exact const_val (f := single) false 8388608 87 (-23) (by decide) (by decide +kernel)
  | 1, _ => by exact const_val (f := single) false 16205546 86 (-24) (by decide) (by decide +kernel)
  | 2, _ => by exact const_val (f := single) false 14529495 86 (-24) (by decide) (by decide +kernel)
  | 3, _ => by exact const_val (f := single) false 11863283 86 (-24) (by decide) (by decide +kernel)
  | 4, _ => by exact const_val (f := single) false 8388608 86 (-24) (by decide) (by decide +kernel)
  | 5, _ => by exact const_val (f := single) false 8684526 85 (-25) (by decide) (by decide +kernel)
  | 6, _ => by exact zero_val stdS
  | 7, _ => by exact const_val (f := single) true 8684526 85 (-25) (by decide) (by decide +kernel)
  | k + 8, h => absurd h (by omega)
theorem sizeSr (k : Nat) : -1298074214633706907132624082305024 ≤ vSr k ∧ vSr k ≤ 1298074214633706907132624082305024 := by
  unfold vSr; split <;> decide
def wSi : Nat → Nat
  | 0 => 0
  | 1 => 1048871918
  | 2 => 1056964608
  | 3 => 1060439283
  | 4 => 1063105495
  | 5 => 1064781546
  | 6 => 1065353216
  | _ => 1064781546
def vSi : Nat → Int
  | 0 => 0
  | 1 => 335966326800465825539018490642432
  | 2 => 649037107316853453566312041152512
  | 3 => 917877063942098997734131695091712
  | 4 => 1124165225693546017327840682311680
  | 5 => 1253843390742564823273150185734144
  | 6 => 1298074214633706907132624082305024
  | _ => 1253843390742564823273150185734144
theorem rootSi : ∀ k, k < 8 → ValS (wSi k) (vSi k)
  | 0, _ => by exact zero_val stdS
  | 1, _ => by exact const_val (f := single) false 8684526 85 (-25) (by decide) (by decide +kernel)
  | 2, _ => by exact const_val (f := single) false 8388608 86 (-24) (by decide) (by decide +kernel)
  | 3, _ => by exact const_val (f := single) false 11863283 86 (-24) (by decide) (by decide +kernel)
  | 4, _ => by exact const_val (f := single) false 14529495 86 (-24) (by decide) (by decide +kernel)
  | 5, _ => by exact const_val (f := single) false 16205546 86 (-24) (by decide) (by decide +kernel)
  | 6, _ => by exact const_val (f := single) false 8388608 87 (-23) (by decide) (by decide +kernel)
  | 7, _ => by exact const_val (f := single) false 16205546 86 (-24) (by decide) (by decide +kernel)
  | k + 8, h => absurd h (by omega)
theorem sizeSi (k : Nat) : -1298074214633706907132624082305024 ≤ vSi k ∧ vSi k ≤ 1298074214633706907132624082305024 := by
  unfold vSi; split <;> decide
/-! ### Terms and sums -/
theorem small_of {d B P : Int} (hP : 1 ≤ P) (hB : 0 ≤ B) (h1 : d * P ≤ B) (h2 : -B ≤ d * P) : d ≤ B ∧ -B ≤ d := by
  constructor
  · rcases Int.lt_or_le B d with h | h
    · have : d * 1 ≤ d * P := Int.mul_le_mul_of_nonneg_left hP (by omega)
      omega
    · exact h
  · rcases Int.lt_or_le d (-B) with h | h
    · have : -d * 1 ≤ -d * P := Int.mul_le_mul_of_nonneg_left hP (by omega)
      rw [Int.neg_mul, Int.neg_mul] at this
      omega
    · exact h
theorem rnd_bound (p : Nat) (v B : Int) (h1 : -B ≤ v) (h2 : v ≤ B) : -(2 * B) ≤ rnd p v ∧ rnd p v ≤ 2 * B := by
  obtain ⟨e1, e2⟩ := rnd_err p v B h1 h2
  have h3 : (1 : Int) ≤ 2 ^ (p + 1) := by have := two_powI (p + 1); omega
  obtain ⟨d1, d2⟩ := small_of h3 (by omega) e1 e2
  omega
/-- A term's word. -/
def tmW (k : FloatKind) (c : Int) (r : Nat) : Nat := (k.format.mul (floatOfInt k c) r).getD 0
def tmV (p : Nat) (c r : Int) : Int := rnd p (c * r)
theorem tm_size {p : Nat} {c r : Int} (hc : -1000000 ≤ c ∧ c ≤ 1000000) (hr : -1298074214633706907132624082305024 ≤ r ∧ r ≤ 1298074214633706907132624082305024) :
    (-1298074214633706907132624082305024000000 ≤ c * r ∧ c * r ≤ 1298074214633706907132624082305024000000) ∧ -2596148429267413814265248164610048000000 ≤ tmV p c r ∧ tmV p c r ≤ 2596148429267413814265248164610048000000 := by
  have h : -1298074214633706907132624082305024000000 ≤ c * r ∧ c * r ≤ 1298074214633706907132624082305024000000 := by
    rcases Int.le_total 0 c with h | h
    · have a := Int.mul_le_mul_of_nonneg_left hr.2 h
      have b := Int.mul_le_mul_of_nonneg_left hr.1 h
      omega
    · have a := Int.mul_le_mul_of_nonpos_left h hr.2
      have b := Int.mul_le_mul_of_nonpos_left h hr.1
      omega
  exact ⟨h, rnd_bound p _ _ h.1 h.2⟩
theorem tm_dbl {c r : Int} {x : Nat} (hc : -1000000 ≤ c ∧ c ≤ 1000000) (hx : ValD x r) (hr : -1298074214633706907132624082305024 ≤ r ∧ r ≤ 1298074214633706907132624082305024) :
    floatBits .mul .f64 (floatOfInt .f64 c) x = some (tmW .f64 c x) ∧ ValD (tmW .f64 c x) (tmV 52 c r) := by
  have hi : Val double tD (floatOfInt .f64 c) (c * 2 ^ 110) := int_val stdD (Nat.lt_of_le_of_lt (show c.natAbs ≤ 1000000 by omega) (by decide)) (Nat.lt_of_le_of_lt (show c.natAbs ≤ 1000000 by omega) (by decide))
  have hb := (tm_size (p := 52) hc hr).1
  obtain ⟨z, h1, h2⟩ := mul_val stdD hi hx (by omega)
  have e : tmW .f64 c x = z := by unfold tmW; rw [show FloatKind.f64.format = double from rfl, h1]; rfl
  rw [e]
  exact ⟨h1, h2⟩
theorem tm_sgl {c r : Int} {x : Nat} (hc : -1000000 ≤ c ∧ c ≤ 1000000) (hx : ValS x r) (hr : -1298074214633706907132624082305024 ≤ r ∧ r ≤ 1298074214633706907132624082305024) :
    floatBits .mul .f32 (floatOfInt .f32 c) x = some (tmW .f32 c x) ∧ ValS (tmW .f32 c x) (tmV 23 c r) := by
  have hi : Val single tS (floatOfInt .f32 c) (c * 2 ^ 110) := int_val stdS (Nat.lt_of_le_of_lt (show c.natAbs ≤ 1000000 by omega) (by decide)) (Nat.lt_of_le_of_lt (show c.natAbs ≤ 1000000 by omega) (by decide))
  have hb := (tm_size (p := 23) hc hr).1
  obtain ⟨z, h1, h2⟩ := mul_val stdS hi hx (by omega)
  have e : tmW .f32 c x = z := by unfold tmW; rw [show FloatKind.f32.format = single from rfl, h1]; rfl
  rw [e]
  exact ⟨h1, h2⟩
def smW (k : FloatKind) (g : Nat → Nat) : Nat → Nat
  | 0 => 0
  | n + 1 => (k.format.add (smW k g n) (g n)).getD 0
def smV (p : Nat) (h : Nat → Int) : Nat → Int
  | 0 => 0
  | n + 1 => rnd p (smV p h n + h n)
/-- A bound of the sum of n terms. -/
def bnd : Nat → Int
  | 0 => 0
  | n + 1 => 2 * (bnd n + 2596148429267413814265248164610048000000)
theorem bnd_le (n : Nat) (h : n ≤ 8) : 0 ≤ bnd n ∧ bnd n ≤ 2596148429267413814265248164610048000000000 := by
  rcases (show n = 0 ∨ n = 1 ∨ n = 2 ∨ n = 3 ∨ n = 4 ∨ n = 5 ∨ n = 6 ∨ n = 7 ∨ n = 8 by omega) with rfl | rfl | rfl | rfl | rfl | rfl | rfl | rfl | rfl <;> decide
theorem sm_val {k : FloatKind} {p lo t M : Nat} (H : Std k.format p lo t M) {g : Nat → Nat} {h : Nat → Int} (hg : ∀ n, n < 8 → Val k.format t (g n) (h n))
    (hb : ∀ n, n < 8 → -2596148429267413814265248164610048000000 ≤ h n ∧ h n ≤ 2596148429267413814265248164610048000000) :
    ∀ n, n ≤ 8 → Val k.format t (smW k g n) (smV p h n) ∧ -bnd n ≤ smV p h n ∧ smV p h n ≤ bnd n
  | 0, _ => ⟨zero_val H, by show -(0 : Int) ≤ 0; decide, by show (0 : Int) ≤ 0; decide⟩
  | n + 1, hn => by
    obtain ⟨hv, b1, b2⟩ := sm_val H hg hb n (by omega)
    have hgn := hg n (by omega)
    have hbn := hb n (by omega)
    have hl := bnd_le n (by omega)
    obtain ⟨z, h1, h2⟩ := add_val H hv hgn (by omega)
    have e : smW k g (n + 1) = z := by show (k.format.add (smW k g n) (g n)).getD 0 = z; rw [h1]; rfl
    rw [e]
    exact ⟨h2, rnd_bound p _ (bnd n + 2596148429267413814265248164610048000000) (by omega) (by omega)⟩
theorem sm_step {k : FloatKind} {p lo t M : Nat} (H : Std k.format p lo t M) {g : Nat → Nat} {h : Nat → Int} (hg : ∀ n, n < 8 → Val k.format t (g n) (h n))
    (hb : ∀ n, n < 8 → -2596148429267413814265248164610048000000 ≤ h n ∧ h n ≤ 2596148429267413814265248164610048000000) (n : Nat) (hn : n < 8) :
    floatBits .add k (smW k g n) (g n) = some (smW k g (n + 1)) := by
  obtain ⟨hv, b1, b2⟩ := sm_val H hg hb n (by omega)
  have hbn := hb n hn
  have hl := bnd_le n (by omega)
  obtain ⟨z, h1, -⟩ := add_val H hv (hg n hn) (by omega)
  show k.format.add (smW k g n) (g n) = some ((k.format.add (smW k g n) (g n)).getD 0)
  rw [h1]; rfl
theorem smV_congr {p : Nat} {h h' : Nat → Int} : ∀ n, (∀ j, j < n → h j = h' j) → smV p h n = smV p h' n
  | 0, _ => rfl
  | n + 1, e => by
    show rnd p (smV p h n + h n) = rnd p (smV p h' n + h' n)
    rw [smV_congr n (fun j hj => e j (by omega)), e n (by omega)]
theorem smV_neg (p : Nat) (h : Nat → Int) : ∀ n, smV p (fun k => -h k) n = -smV p h n
  | 0 => rfl
  | n + 1 => by
    show rnd p (smV p (fun k => -h k) n + -h n) = -rnd p (smV p h n + h n)
    rw [smV_neg p h n, ← Int.neg_add, rnd_neg]
theorem tmV_neg (p : Nat) (c r : Int) : tmV p (-c) r = -tmV p c r := by unfold tmV; rw [Int.neg_mul, rnd_neg]
/-! ### Points -/
def wpr (c : Nat → Int) (n : Nat) : Nat := smW .f64 (fun k => tmW .f64 (c k) (wDr k)) n
def wpi (c : Nat → Int) (n : Nat) : Nat := smW .f64 (fun k => tmW .f64 (c k) (wDi k)) n
def spr (c : Nat → Int) (n : Nat) : Nat := smW .f32 (fun k => tmW .f32 (c k) (wSr k)) n
def spi (c : Nat → Int) (n : Nat) : Nat := smW .f32 (fun k => tmW .f32 (c k) (wSi k)) n
def vwr (c : Nat → Int) (n : Nat) : Int := smV 52 (fun k => tmV 52 (c k) (vDr k)) n
def vwi (c : Nat → Int) (n : Nat) : Int := smV 52 (fun k => tmV 52 (c k) (vDi k)) n
def vsr (c : Nat → Int) (n : Nat) : Int := smV 23 (fun k => tmV 23 (c k) (vSr k)) n
def vsi (c : Nat → Int) (n : Nat) : Int := smV 23 (fun k => tmV 23 (c k) (vSi k)) n
/-- Coefficients that are none too great. -/
def Okc (c : Nat → Int) : Prop := ∀ k, k < 8 → -1000000 ≤ c k ∧ c k ≤ 1000000
theorem wide_val {c : Nat → Int} (hc : Okc c) (n : Nat) (hn : n ≤ 8) : (ValD (wpr c n) (vwr c n) ∧ -bnd n ≤ vwr c n ∧ vwr c n ≤ bnd n) ∧ (ValD (wpi c n) (vwi c n) ∧ -bnd n ≤ vwi c n ∧ vwi c n ≤ bnd n) :=
  ⟨sm_val (k := .f64) stdD (fun j hj => (tm_dbl (hc j hj) (rootDr j hj) (sizeDr j)).2) (fun j hj => (tm_size (hc j hj) (sizeDr j)).2) n hn,
   sm_val (k := .f64) stdD (fun j hj => (tm_dbl (hc j hj) (rootDi j hj) (sizeDi j)).2) (fun j hj => (tm_size (hc j hj) (sizeDi j)).2) n hn⟩
theorem sing_val {c : Nat → Int} (hc : Okc c) (n : Nat) (hn : n ≤ 8) : (ValS (spr c n) (vsr c n) ∧ -bnd n ≤ vsr c n ∧ vsr c n ≤ bnd n) ∧ (ValS (spi c n) (vsi c n) ∧ -bnd n ≤ vsi c n ∧ vsi c n ≤ bnd n) :=
  ⟨sm_val (k := .f32) stdS (fun j hj => (tm_sgl (hc j hj) (rootSr j hj) (sizeSr j)).2) (fun j hj => (tm_size (hc j hj) (sizeSr j)).2) n hn,
   sm_val (k := .f32) stdS (fun j hj => (tm_sgl (hc j hj) (rootSi j hj) (sizeSi j)).2) (fun j hj => (tm_size (hc j hj) (sizeSi j)).2) n hn⟩
theorem wide_step {c : Nat → Int} (hc : Okc c) (n : Nat) (hn : n < 8) : floatBits .add .f64 (wpr c n) (tmW .f64 (c n) (wDr n)) = some (wpr c (n + 1)) ∧ floatBits .add .f64 (wpi c n) (tmW .f64 (c n) (wDi n)) = some (wpi c (n + 1)) :=
  ⟨sm_step (k := .f64) stdD (fun j hj => (tm_dbl (hc j hj) (rootDr j hj) (sizeDr j)).2) (fun j hj => (tm_size (hc j hj) (sizeDr j)).2) n hn,
   sm_step (k := .f64) stdD (fun j hj => (tm_dbl (hc j hj) (rootDi j hj) (sizeDi j)).2) (fun j hj => (tm_size (hc j hj) (sizeDi j)).2) n hn⟩
theorem sing_step {c : Nat → Int} (hc : Okc c) (n : Nat) (hn : n < 8) : floatBits .add .f32 (spr c n) (tmW .f32 (c n) (wSr n)) = some (spr c (n + 1)) ∧ floatBits .add .f32 (spi c n) (tmW .f32 (c n) (wSi n)) = some (spi c (n + 1)) :=
  ⟨sm_step (k := .f32) stdS (fun j hj => (tm_sgl (hc j hj) (rootSr j hj) (sizeSr j)).2) (fun j hj => (tm_size (hc j hj) (sizeSr j)).2) n hn,
   sm_step (k := .f32) stdS (fun j hj => (tm_sgl (hc j hj) (rootSi j hj) (sizeSi j)).2) (fun j hj => (tm_size (hc j hj) (sizeSi j)).2) n hn⟩
theorem neg_points (c : Nat → Int) (n : Nat) : vwr (fun k => -c k) n = -vwr c n ∧ vwi (fun k => -c k) n = -vwi c n ∧ vsr (fun k => -c k) n = -vsr c n ∧ vsi (fun k => -c k) n = -vsi c n := by
  refine ⟨?_, ?_, ?_, ?_⟩
  · unfold vwr; rw [← smV_neg]; exact smV_congr n (fun j _ => tmV_neg _ _ _)
  · unfold vwi; rw [← smV_neg]; exact smV_congr n (fun j _ => tmV_neg _ _ _)
  · unfold vsr; rw [← smV_neg]; exact smV_congr n (fun j _ => tmV_neg _ _ _)
  · unfold vsi; rw [← smV_neg]; exact smV_congr n (fun j _ => tmV_neg _ _ _)
attribute [irreducible] tmW tmV
end Go.Proofs.Ytibhlaojinedoaa
