/-
  Floats of both widths as whole numbers of 2^-110: what an operation gives is the exact result, rounded once (rnd).
-/
import Derived.WalkKit
import Ieee.Arith
namespace Go.Proofs.Ytmbhbocfnpklpaa
set_option maxRecDepth 20000
set_option linter.unusedVariables false
set_option linter.unusedSimpArgs false
open Ieee

/-! ### Whole numbers rounded to p + 1 digits -/
def sgnd (s : Bool) (n : Nat) : Int := if s then -(n : Int) else n
theorem sgnd_mul (s : Bool) (n k : Nat) : sgnd s n * (k : Int) = sgnd s (n * k) := by cases s <;> simp [sgnd, Int.neg_mul]
theorem sgnd_abs (s : Bool) (n : Nat) : (sgnd s n).natAbs = n := by cases s <;> simp [sgnd]
theorem sgnd_neg (s : Bool) (n : Nat) : sgnd (!s) n = -sgnd s n := by cases s <;> simp [sgnd]
theorem sgnd_zero (s : Bool) : sgnd s 0 = 0 := by cases s <;> rfl
theorem sgnd_of (v : Int) : sgnd (decide (v < 0)) v.natAbs = v := by
  unfold sgnd
  by_cases h : v < 0
  · rw [if_pos (by simpa using h)]; omega
  · rw [if_neg (by simpa using h)]; omega
theorem sgnd_prod (s t : Bool) (m n : Nat) : sgnd s m * sgnd t n = sgnd (s ^^ t) (m * n) := by cases s <;> cases t <;> simp [sgnd, Int.neg_mul, Int.mul_neg]
def cutN (n d : Nat) : Nat := n / 2 ^ d + (decide (2 ^ d < 2 * (n % 2 ^ d)) || (2 ^ d == 2 * (n % 2 ^ d) && n / 2 ^ d % 2 == 1)).toNat
theorem cut_cutN (neg : Bool) (n d : Nat) (h : d ≤ n.log2 + 2) : Toward.even.cut neg n d = cutN n d := by
  unfold Toward.cut cutN
  rw [Nat.min_eq_left h, Nat.shiftLeft_eq, Nat.one_mul]
theorem cutN_zero (n : Nat) : cutN n 0 = n := by
  unfold cutN
  rw [Nat.pow_zero, Nat.mod_one, Nat.div_one]; simp
theorem cutN_scale (n k d : Nat) : cutN (n * 2 ^ k) (d + k) = cutN n d := by
  unfold cutN
  have hk : 0 < 2 ^ k := Nat.two_pow_pos k
  have e1 : n * 2 ^ k / (2 ^ d * 2 ^ k) = n / 2 ^ d := Nat.mul_div_mul_right _ _ hk
  have e2 : n * 2 ^ k % (2 ^ d * 2 ^ k) = n % 2 ^ d * 2 ^ k := Nat.mul_mod_mul_right _ _ _
  rw [Nat.pow_add, e1, e2, ← Nat.mul_assoc]
  generalize 2 * (n % 2 ^ d) = r
  generalize 2 ^ d = g
  have c1 : (g * 2 ^ k < r * 2 ^ k) ↔ g < r := Nat.mul_lt_mul_right hk
  have c2 : (g * 2 ^ k == r * 2 ^ k) = (g == r) := by
    by_cases h : g = r
    · subst h; simp
    · have : g * 2 ^ k ≠ r * 2 ^ k := fun e => h (Nat.eq_of_mul_eq_mul_right hk e)
      rw [beq_eq_false_iff_ne.2 this, beq_eq_false_iff_ne.2 h]
  rw [c2, decide_eq_decide.2 c1]
theorem cutN_scale0 (n k : Nat) : cutN (n * 2 ^ k) k = n := by
  have := cutN_scale n k 0
  rw [Nat.zero_add] at this
  rw [this, cutN_zero]
theorem cutN_err (n d : Nat) : 2 * (cutN n d * 2 ^ d) ≤ 2 * n + 2 ^ d ∧ 2 * n ≤ 2 * (cutN n d * 2 ^ d) + 2 ^ d := by
  unfold cutN
  have hd := Nat.div_add_mod n (2 ^ d)
  have hr := Nat.mod_lt n (Nat.two_pow_pos d)
  generalize hq : n / 2 ^ d = q at *
  generalize n % 2 ^ d = r at *
  generalize 2 ^ d = g at *
  have e : g * q = q * g := Nat.mul_comm _ _
  rw [e] at hd
  by_cases h1 : g < 2 * r
  · rw [show (decide (g < 2 * r) || (g == 2 * r && q % 2 == 1)) = true by simp [h1]]
    rw [show (true : Bool).toNat = 1 from rfl, Nat.add_mul, Nat.one_mul]
    generalize q * g = x at *
    omega
  · by_cases h2 : (g == 2 * r && q % 2 == 1) = true
    · rw [show (decide (g < 2 * r) || (g == 2 * r && q % 2 == 1)) = true by simp [h2]]
      rw [show (true : Bool).toNat = 1 from rfl, Nat.add_mul, Nat.one_mul]
      have : g = 2 * r := by simp at h2; exact h2.1
      generalize q * g = x at *
      omega
    · rw [show (decide (g < 2 * r) || (g == 2 * r && q % 2 == 1)) = false by simp [h1]; simpa using h2]
      rw [show (false : Bool).toNat = 0 from rfl, Nat.add_zero]
      generalize q * g = x at *
      omega
/-- What is kept is a full significand. -/
theorem cutN_full {n p d : Nat} (h1 : 2 ^ (p + d) ≤ n) (h2 : n < 2 ^ (p + 1 + d)) : 2 ^ p ≤ cutN n d ∧ cutN n d ≤ 2 ^ (p + 1) := by
  have hp := Nat.two_pow_pos d
  have b1 : 2 ^ p ≤ n / 2 ^ d := by rw [Nat.le_div_iff_mul_le hp, ← Nat.pow_add]; exact h1
  have b2 : n / 2 ^ d < 2 ^ (p + 1) := by rw [Nat.div_lt_iff_lt_mul hp, ← Nat.pow_add]; exact h2
  unfold cutN
  generalize (decide (2 ^ d < 2 * (n % 2 ^ d)) || (2 ^ d == 2 * (n % 2 ^ d) && n / 2 ^ d % 2 == 1)) = b
  cases b
  · simp only [Bool.toNat_false]; omega
  · simp only [Bool.toNat_true]; omega
def rndN (p V : Nat) : Nat := cutN V (V.log2 - p) * 2 ^ (V.log2 - p)
def rnd (p : Nat) (v : Int) : Int := sgnd (decide (v < 0)) (rndN p v.natAbs)
theorem log2_up {n : Nat} (hn : 0 < n) (k : Nat) : (n * 2 ^ k).log2 = n.log2 + k := by
  have h0 : n * 2 ^ k ≠ 0 := Nat.ne_of_gt (Nat.mul_pos hn (Nat.two_pow_pos k))
  have l1 : 2 ^ n.log2 ≤ n := Nat.log2_self_le (by omega)
  have l2 : n < 2 ^ (n.log2 + 1) := Nat.lt_log2_self
  have a1 : n.log2 + k ≤ (n * 2 ^ k).log2 := by
    rw [Nat.le_log2 h0, Nat.pow_add]
    exact Nat.mul_le_mul_right _ l1
  have a2 : (n * 2 ^ k).log2 < n.log2 + 1 + k := by
    rw [Nat.log2_lt h0, Nat.pow_add]
    exact Nat.mul_lt_mul_of_pos_right l2 (Nat.two_pow_pos k)
  omega
theorem rndN_zero (p : Nat) : rndN p 0 = 0 := by
  unfold rndN
  rw [show Nat.log2 0 = 0 by decide, Nat.zero_sub, cutN_zero, Nat.zero_mul]
theorem rndN_exact {p n : Nat} (h : n < 2 ^ (p + 1)) (k : Nat) : rndN p (n * 2 ^ k) = n * 2 ^ k := by
  rcases Nat.eq_zero_or_pos n with rfl | hn
  · rw [Nat.zero_mul, rndN_zero]
  · unfold rndN
    rw [log2_up hn k]
    have hl : n.log2 < p + 1 := by rw [Nat.log2_lt (by omega)]; exact h
    obtain ⟨d, hd⟩ : ∃ d, d = n.log2 + k - p := ⟨_, rfl⟩
    rw [← hd]
    have e : n * 2 ^ k = n * 2 ^ (k - d) * 2 ^ d := by rw [Nat.mul_assoc, ← Nat.pow_add, show k - d + d = k by omega]
    rw [e, cutN_scale0]
theorem rndN_err (p V : Nat) : rndN p V * 2 ^ (p + 1) ≤ V * 2 ^ (p + 1) + V ∧ V * 2 ^ (p + 1) ≤ rndN p V * 2 ^ (p + 1) + V := by
  rcases Nat.eq_zero_or_pos V with rfl | hV
  · rw [rndN_zero]; simp
  have l1 : 2 ^ V.log2 ≤ V := Nat.log2_self_le (by omega)
  unfold rndN
  by_cases h : V.log2 ≤ p
  · rw [show V.log2 - p = 0 by omega, cutN_zero, Nat.pow_zero, Nat.mul_one]; omega
  · obtain ⟨d, hd⟩ : ∃ d, d = V.log2 - p := ⟨_, rfl⟩
    rw [← hd]
    have hdp : 2 ^ d * 2 ^ p ≤ V := by rw [← Nat.pow_add, show d + p = V.log2 by omega]; exact l1
    obtain ⟨e1, e2⟩ := cutN_err V d
    have f1 := Nat.mul_le_mul_right (2 ^ p) e1
    have f2 := Nat.mul_le_mul_right (2 ^ p) e2
    rw [Nat.pow_succ]
    generalize cutN V d * 2 ^ d = K at *
    generalize 2 ^ d = g at *
    generalize 2 ^ p = P at *
    rw [Nat.add_mul] at f1 f2
    rw [show K * (P * 2) = 2 * K * P by rw [Nat.mul_comm P, ← Nat.mul_assoc, Nat.mul_comm K], show V * (P * 2) = 2 * V * P by rw [Nat.mul_comm P, ← Nat.mul_assoc, Nat.mul_comm V]]
    omega
theorem rnd_zero (p : Nat) : rnd p 0 = 0 := by unfold rnd; rw [show (0 : Int).natAbs = 0 from rfl, rndN_zero, sgnd_zero]
theorem rnd_neg (p : Nat) (v : Int) : rnd p (-v) = -rnd p v := by
  rcases Int.lt_trichotomy v 0 with h | rfl | h
  · unfold rnd
    rw [Int.natAbs_neg, show decide (-v < 0) = false by simp; omega, show decide (v < 0) = true by simpa using h]
    simp [sgnd]
  · rw [Int.neg_zero, rnd_zero]; rfl
  · unfold rnd
    rw [Int.natAbs_neg, show decide (-v < 0) = true by simp; omega, show decide (v < 0) = false by simp; omega]
    simp [sgnd]
theorem rnd_sgnd (p : Nat) (s : Bool) (n : Nat) : rnd p (sgnd s n) = sgnd s (rndN p n) := by
  cases s
  · unfold rnd; rw [sgnd_abs]; rw [show decide (sgnd false n < 0) = false by simp [sgnd]]
  · rw [show sgnd true n = -sgnd false n by rfl, rnd_neg]
    unfold rnd; rw [sgnd_abs]; rw [show decide (sgnd false n < 0) = false by simp [sgnd]]; rfl
theorem rnd_exact {p n : Nat} (h : n < 2 ^ (p + 1)) (k : Nat) (s : Bool) : rnd p (sgnd s (n * 2 ^ k)) = sgnd s (n * 2 ^ k) := by rw [rnd_sgnd, rndN_exact h]
/-- How far rounding goes: by a part in 2^(p+1). -/
theorem rnd_err (p : Nat) (v B : Int) (h1 : -B ≤ v) (h2 : v ≤ B) : (rnd p v - v) * 2 ^ (p + 1) ≤ B ∧ -B ≤ (rnd p v - v) * 2 ^ (p + 1) := by
  obtain ⟨e1, e2⟩ := rndN_err p v.natAbs
  have hc : ((2 ^ (p + 1) : Nat) : Int) = 2 ^ (p + 1) := by simp
  have hv := sgnd_of v
  unfold rnd
  generalize hP : 2 ^ (p + 1) = P at *
  rw [← hc, Int.sub_mul, sgnd_mul]
  have h3 : v * (P : Int) = sgnd (decide (v < 0)) (v.natAbs * P) := by rw [← sgnd_mul, hv]
  rw [h3]
  generalize hd : decide (v < 0) = d
  generalize rndN p v.natAbs * P = x at *
  generalize v.natAbs * P = y at *
  cases d <;> simp only [sgnd] <;> simp <;> omega
/-! ### Formats -/
def Std (f : Format) (p lo t M : Nat) : Prop :=
  f.fractionBits = p ∧ f.leastPlace = -(lo : Int) ∧ f.binade = 2 ^ p ∧ f.infRung = M * 2 ^ p ∧ f.signWeight = (M + 1) * 2 ^ p ∧ lo = t + 110 ∧ p ≤ t ∧ t + 203 ≤ M + p
/-- A datum that stands for v / 2^110. -/
def DVal (t : Nat) (d : Datum) (v : Int) : Prop := ∃ (s : Bool) (m b : Nat), d = .number s m ((b : Int) - ((t + 110 : Nat) : Int)) ∧ sgnd s (m * 2 ^ b) = v * 2 ^ t
def Val (f : Format) (t x : Nat) (v : Int) : Prop := DVal t (f.read x) v
theorem read_wordN {f : Format} {p lo t M : Nat} (H : Std f p lo t M) (neg : Bool) (rung : Nat) (h1 : 2 ^ p ≤ rung) (h2 : rung < M * 2 ^ p) :
    f.read (f.word neg rung) = .number neg (2 ^ p + rung % 2 ^ p) (-(lo : Int) + ((rung / 2 ^ p - 1 : Nat) : Int)) := by
  obtain ⟨-, hl, hb, hi, hs, -⟩ := H
  unfold Format.read Format.word
  rw [hl, hb, hi, hs]
  have h3 : rung < (M + 1) * 2 ^ p := by rw [Nat.add_mul]; omega
  generalize hS : (M + 1) * 2 ^ p = S at *
  have e1 : (if neg = true then S + rung else rung) % S = rung := by
    cases neg
    · simp only [Bool.false_eq_true, if_false]; exact Nat.mod_eq_of_lt h3
    · simp only [if_true]; rw [Nat.add_mod_left]; exact Nat.mod_eq_of_lt h3
  have e2 : ((if neg = true then S + rung else rung) / S % 2 == 1) = neg := by
    have hS0 : 0 < S := by omega
    cases neg
    · simp only [Bool.false_eq_true, if_false]; rw [Nat.div_eq_of_lt h3]; rfl
    · simp only [if_true]; rw [Nat.add_div_left _ hS0, Nat.div_eq_of_lt h3]; rfl
  simp only [e1, e2]
  rw [if_neg (by omega), if_pos h2]
theorem read_zeroN {f : Format} {p lo t M : Nat} (H : Std f p lo t M) (neg : Bool) : f.read (f.word neg 0) = .number neg 0 (-(lo : Int)) := by
  obtain ⟨-, hl, hb, hi, hs, -⟩ := H
  have hp : 0 < 2 ^ p := Nat.two_pow_pos p
  have hS0 : 0 < (M + 1) * 2 ^ p := Nat.mul_pos (by omega) hp
  unfold Format.read Format.word
  rw [hl, hb, hs]
  generalize (M + 1) * 2 ^ p = S at *
  cases neg
  · simp only [Bool.false_eq_true, if_false]; rw [Nat.zero_mod, if_pos hp, Nat.zero_div]; rfl
  · simp only [if_true, Nat.add_zero]; rw [Nat.mod_self, if_pos hp, Nat.div_self hS0]; rfl
/-- What is written is the number, rounded once. -/
theorem nearest_val {f : Format} {p lo t M : Nat} (H : Std f p lo t M) (neg : Bool) (mag b j V : Nat) (place : Int) (hpl : place = (b : Int) - (lo : Int) - (j : Int)) (hX : mag * 2 ^ b = V * 2 ^ (t + j)) (hV : V < 2 ^ 200) :
    Val f t (f.nearest neg mag place) (sgnd neg (rndN p V)) := by
  have H0 := H
  obtain ⟨hf, hl, hb, hi, hs, ht, hpt, hbig⟩ := H
  rcases Nat.eq_zero_or_pos mag with rfl | hm
  · have hV0 : V = 0 := by
      rw [Nat.zero_mul] at hX
      rcases Nat.mul_eq_zero.1 hX.symm with h | h
      · exact h
      · exact absurd h (Nat.ne_of_gt (Nat.two_pow_pos _))
    subst hV0
    unfold Format.nearest
    rw [if_pos rfl, rndN_zero, sgnd_zero]
    refine ⟨neg, 0, 0, ?_, by rw [Nat.zero_mul, sgnd_zero, Int.zero_mul]⟩
    rw [read_zeroN H0, ← ht]; simp
  · have hV0 : 0 < V := by
      rcases Nat.eq_zero_or_pos V with rfl | h
      · rw [Nat.zero_mul] at hX; exact absurd hX (Nat.ne_of_gt (Nat.mul_pos hm (Nat.two_pow_pos b)))
      · exact h
    have hL : b + mag.log2 = V.log2 + t + j := by
      have := congrArg Nat.log2 hX
      rw [log2_up hm, log2_up hV0] at this; omega
    have hVl : V.log2 < 200 := by rw [Nat.log2_lt (by omega)]; exact hV
    obtain ⟨q, hq⟩ : ∃ q, q = V.log2 + t - p := ⟨_, rfl⟩
    have hlast : max (place + (mag.log2 : Int) - (f.fractionBits : Nat)) f.leastPlace = (q : Int) - (lo : Int) := by
      rw [hf, hl]; omega
    have l1 : 2 ^ V.log2 ≤ V := Nat.log2_self_le (by omega)
    have l2 : V < 2 ^ (V.log2 + 1) := Nat.lt_log2_self
    -- the same cut, of V
    have hcut : Toward.even.cut neg (mag <<< (b - (j + q))) (j + q - b) = cutN (V * 2 ^ t) q := by
      have hz : cutN (mag * 2 ^ b) (q + j) = cutN (V * 2 ^ t) q := by rw [hX, Nat.pow_add, ← Nat.mul_assoc, cutN_scale]
      have hml : (mag <<< (b - (j + q))).log2 = mag.log2 + (b - (j + q)) := by rw [Nat.shiftLeft_eq, log2_up hm]
      rw [cut_cutN _ _ _ (by rw [hml]; omega), ← hz, Nat.shiftLeft_eq]
      by_cases hc : j + q ≤ b
      · rw [show j + q - b = 0 by omega, cutN_zero]
        have e : mag * 2 ^ b = mag * 2 ^ (b - (j + q)) * 2 ^ (q + j) := by rw [Nat.mul_assoc, ← Nat.pow_add, show b - (j + q) + (q + j) = b by omega]
        rw [e, cutN_scale0]
      · rw [show b - (j + q) = 0 by omega, Nat.pow_zero, Nat.mul_one]
        have := cutN_scale mag b (j + q - b)
        rw [show j + q - b + b = q + j by omega] at this
        exact this.symm
    have hn : f.nearest neg mag place = f.word neg (min (q * 2 ^ p + cutN (V * 2 ^ t) q) (M * 2 ^ p)) := by
      unfold Format.nearest
      rw [if_neg (by omega)]
      simp only [hb, hi]
      rw [hlast, hl, hpl]
      rw [show ((b : Int) - (lo : Int) - (j : Int) - ((q : Int) - (lo : Int))).toNat = b - (j + q) by omega, show ((q : Int) - (lo : Int) - ((b : Int) - (lo : Int) - (j : Int))).toNat = j + q - b by omega, show ((q : Int) - (lo : Int) - -(lo : Int)).toNat = q by omega, hcut]
    -- a full significand
    have hfull : 2 ^ p ≤ cutN (V * 2 ^ t) q ∧ cutN (V * 2 ^ t) q ≤ 2 ^ (p + 1) := by
      refine cutN_full ?_ ?_
      · rw [show p + q = V.log2 + t by omega, Nat.pow_add]; exact Nat.mul_le_mul_right _ l1
      · rw [show p + 1 + q = V.log2 + 1 + t by omega, Nat.pow_add]; exact Nat.mul_lt_mul_of_pos_right l2 (Nat.two_pow_pos t)
    -- what it stands for
    have hval : cutN (V * 2 ^ t) q * 2 ^ q = rndN p V * 2 ^ t := by
      unfold rndN
      by_cases hc : V.log2 ≤ p
      · rw [show V.log2 - p = 0 by omega, cutN_zero, Nat.pow_zero, Nat.mul_one]
        have e : V * 2 ^ t = V * 2 ^ (t - q) * 2 ^ q := by rw [Nat.mul_assoc, ← Nat.pow_add, show t - q + q = t by omega]
        rw [e, cutN_scale0]
      · have e := cutN_scale V t (V.log2 - p)
        rw [show V.log2 - p + t = q by omega] at e
        rw [e, Nat.mul_assoc, ← Nat.pow_add, show V.log2 - p + t = q by omega]
    rw [hn]
    obtain ⟨f1, f2⟩ := hfull
    generalize cutN (V * 2 ^ t) q = k at *
    have hpp : 0 < 2 ^ p := Nat.two_pow_pos p
    have hM : (q + 3) * 2 ^ p ≤ M * 2 ^ p := Nat.mul_le_mul_right _ (by omega)
    have f2' : k ≤ 2 * 2 ^ p := by rw [Nat.pow_succ] at f2; omega
    have hrl : q * 2 ^ p + k < M * 2 ^ p := by
      have e3 : (q + 3) * 2 ^ p = q * 2 ^ p + 3 * 2 ^ p := Nat.add_mul _ _ _
      omega
    unfold Val
    rw [Nat.min_eq_left (Nat.le_of_lt hrl), read_wordN H0 neg _ (by omega) hrl]
    by_cases hk : k < 2 * 2 ^ p
    · refine ⟨neg, k, q, ?_, ?_⟩
      · have e1 : (q * 2 ^ p + k) % 2 ^ p = k - 2 ^ p := by
          rw [Nat.mul_comm, Nat.mul_add_mod]
          rw [show k = (k - 2 ^ p) + 2 ^ p by omega, Nat.add_mod_right, Nat.mod_eq_of_lt (by omega)]; omega
        have e2 : (q * 2 ^ p + k) / 2 ^ p = q + 1 := by
          rw [Nat.mul_comm, Nat.mul_add_div hpp, show k / 2 ^ p = 1 by rw [Nat.div_eq_iff hpp]; omega]
        rw [e1, e2]
        congr 1
        · omega
        · omega
      · rw [hval, ← sgnd_mul]; simp
    · refine ⟨neg, 2 ^ p, q + 1, ?_, ?_⟩
      · have hk2 : k = 2 * 2 ^ p := by omega
        have e1 : (q * 2 ^ p + k) % 2 ^ p = 0 := by rw [hk2, ← Nat.add_mul, Nat.mul_mod_left]
        have e2 : (q * 2 ^ p + k) / 2 ^ p = q + 2 := by rw [hk2, ← Nat.add_mul, Nat.mul_div_cancel _ hpp]
        rw [e1, e2]
        congr 1
        omega
      · have hk2 : k = 2 * 2 ^ p := by omega
        have e3 : 2 ^ p * 2 ^ (q + 1) = k * 2 ^ q := by rw [hk2, Nat.pow_succ, ← Nat.mul_assoc, Nat.mul_right_comm, Nat.mul_comm (2 ^ p) 2, Nat.mul_right_comm, Nat.mul_assoc, Nat.mul_comm, Nat.mul_assoc, Nat.mul_comm]
        rw [e3, hval, ← sgnd_mul]; simp
theorem two_powI (k : Nat) : (0 : Int) < 2 ^ k := Int.pow_pos (by decide)
theorem cast_powI (k : Nat) : ((2 ^ k : Nat) : Int) = 2 ^ k := by simp
theorem abs_mul_pow {n : Nat} {v : Int} {s : Bool} {t : Nat} (h : sgnd s n = v * 2 ^ t) : n = v.natAbs * 2 ^ t := by
  have := congrArg Int.natAbs h
  rw [sgnd_abs, Int.natAbs_mul, Int.natAbs_pow] at this
  exact this
theorem sign_of {n : Nat} {v : Int} {s : Bool} {t : Nat} (h : sgnd s n = v * 2 ^ t) (h0 : v ≠ 0) : s = decide (v < 0) := by
  have hp := two_powI t
  have hn : 0 < n := by
    rcases Nat.eq_zero_or_pos n with rfl | h1
    · rw [sgnd_zero] at h
      rcases Int.mul_eq_zero.1 h.symm with h2 | h2
      · exact absurd h2 h0
      · omega
    · exact h1
  cases s
  · rcases Int.lt_or_le v 0 with h3 | h3
    · have h4 := Int.mul_neg_of_neg_of_pos h3 hp
      rw [← h] at h4; simp only [sgnd] at h4; simp at h4; omega
    · simp; omega
  · rcases Int.lt_or_le v 0 with h3 | h3
    · simpa using h3
    · have h4 := Int.mul_nonneg h3 (Int.le_of_lt hp)
      rw [← h] at h4; simp only [sgnd] at h4; simp at h4; omega
theorem pow200 {v : Int} (h : -1606938044258990275541962092341162602522202993782792835301375 ≤ v ∧ v ≤ 1606938044258990275541962092341162602522202993782792835301375) : v.natAbs < 2 ^ 200 := by
  have : (2 : Nat) ^ 200 = 1606938044258990275541962092341162602522202993782792835301376 := by decide
  omega
/-- A sum, rounded once. -/
theorem sum_val {f : Format} {p lo t M : Nat} (H : Std f p lo t M) {x y : Datum} {v w : Int} (hx : DVal t x v) (hy : DVal t y w)
    (hb : -1606938044258990275541962092341162602522202993782792835301375 ≤ v + w ∧ v + w ≤ 1606938044258990275541962092341162602522202993782792835301375) :
    ∃ z, (x.sum y).map f.write = some z ∧ Val f t z (rnd p (v + w)) := by
  obtain ⟨s, m, i, rfl, ex⟩ := hx
  obtain ⟨u, n, j, rfl, ey⟩ := hy
  have hlo := H.2.2.2.2.2.1
  obtain ⟨b, hbm⟩ : ∃ b, b = min i j := ⟨_, rfl⟩
  have hbase : min ((i : Int) - ((t + 110 : Nat) : Int)) ((j : Int) - ((t + 110 : Nat) : Int)) = (b : Int) - ((t + 110 : Nat) : Int) := by omega
  obtain ⟨T, hT⟩ : ∃ T, T = sgnd s (m * 2 ^ (i - b)) + sgnd u (n * 2 ^ (j - b)) := ⟨_, rfl⟩
  have hss : ∀ (s : Bool) (m k : Nat), signed s m k = sgnd s (m * 2 ^ k) := fun s m k => by simp [signed, sgnd, Nat.shiftLeft_eq]
  have hTb : T * 2 ^ b = (v + w) * 2 ^ t := by
    rw [hT, Int.add_mul, ← cast_powI b, sgnd_mul, sgnd_mul, Nat.mul_assoc, Nat.mul_assoc, ← Nat.pow_add, ← Nat.pow_add, show i - b + b = i by omega, show j - b + b = j by omega, ex, ey, Int.add_mul]
  have hadd : ((Datum.number s m ((i : Int) - ((t + 110 : Nat) : Int))).sum (.number u n ((j : Int) - ((t + 110 : Nat) : Int)))).map f.write = some (f.nearest (if T = 0 then s && u else decide (T < 0)) T.natAbs ((b : Int) - ((t + 110 : Nat) : Int))) := by
    simp only [Datum.sum, Option.map_some, hbase]
    rw [hss, hss, show ((i : Int) - ((t + 110 : Nat) : Int) - ((b : Int) - ((t + 110 : Nat) : Int))).toNat = i - b by omega, show ((j : Int) - ((t + 110 : Nat) : Int) - ((b : Int) - ((t + 110 : Nat) : Int))).toNat = j - b by omega, ← hT]
    rfl
  have hU : T.natAbs * 2 ^ b = (v + w).natAbs * 2 ^ (t + 0) := by
    have := congrArg Int.natAbs hTb
    rw [Int.natAbs_mul, Int.natAbs_mul, Int.natAbs_pow, Int.natAbs_pow] at this
    exact this
  refine ⟨_, hadd, ?_⟩
  have hn := nearest_val H (if T = 0 then s && u else decide (T < 0)) T.natAbs b 0 (v + w).natAbs ((b : Int) - ((t + 110 : Nat) : Int)) (by omega) hU (pow200 hb)
  have hp := two_powI t
  have hpb := two_powI b
  by_cases h0 : v + w = 0
  · rw [h0] at hn ⊢
    rw [rnd_zero]
    rw [show (0 : Int).natAbs = 0 from rfl, rndN_zero, sgnd_zero] at hn
    exact hn
  · have hT0 : T ≠ 0 := fun h => by
      rw [h, Int.zero_mul] at hTb
      rcases Int.mul_eq_zero.1 hTb.symm with h | h
      · exact h0 h
      · omega
    have hs : decide (T < 0) = decide (v + w < 0) := by
      have e := hTb
      rcases Int.lt_or_le T 0 with h3 | h3
      · have h4 := Int.mul_neg_of_neg_of_pos h3 hpb
        rw [hTb] at h4
        rcases Int.lt_or_le (v + w) 0 with h5 | h5
        · simp [h3, h5]
        · have := Int.mul_nonneg h5 (Int.le_of_lt hp); omega
      · have h4 := Int.mul_nonneg h3 (Int.le_of_lt hpb)
        rw [hTb] at h4
        rcases Int.lt_or_le (v + w) 0 with h5 | h5
        · have := Int.mul_neg_of_neg_of_pos h5 hp; omega
        · rw [decide_eq_decide]; omega
    rw [if_neg hT0] at hn ⊢
    rw [hs] at hn ⊢
    exact hn
theorem opp_val {t : Nat} {x : Datum} {v : Int} (hx : DVal t x v) : DVal t x.opposite (-v) := by
  obtain ⟨s, m, i, rfl, ex⟩ := hx
  exact ⟨!s, m, i, rfl, by rw [sgnd_neg, ex, Int.neg_mul]⟩
theorem add_val {f : Format} {p lo t M : Nat} (H : Std f p lo t M) {x y : Nat} {v w : Int} (hx : Val f t x v) (hy : Val f t y w)
    (hb : -1606938044258990275541962092341162602522202993782792835301375 ≤ v + w ∧ v + w ≤ 1606938044258990275541962092341162602522202993782792835301375) :
    ∃ z, f.add x y = some z ∧ Val f t z (rnd p (v + w)) := sum_val H hx hy hb
theorem sub_val {f : Format} {p lo t M : Nat} (H : Std f p lo t M) {x y : Nat} {v w : Int} (hx : Val f t x v) (hy : Val f t y w)
    (hb : -1606938044258990275541962092341162602522202993782792835301375 ≤ v - w ∧ v - w ≤ 1606938044258990275541962092341162602522202993782792835301375) :
    ∃ z, f.sub x y = some z ∧ Val f t z (rnd p (v - w)) := by
  have := sum_val H hx (opp_val hy) (by omega)
  rw [← Int.sub_eq_add_neg] at this
  exact this
/-- A whole number times a number, rounded once. -/
theorem mul_val {f : Format} {p lo t M : Nat} (H : Std f p lo t M) {x y : Nat} {c r : Int} (hx : Val f t x (c * 2 ^ 110)) (hy : Val f t y r)
    (hb : -1606938044258990275541962092341162602522202993782792835301375 ≤ c * r ∧ c * r ≤ 1606938044258990275541962092341162602522202993782792835301375) :
    ∃ z, f.mul x y = some z ∧ Val f t z (rnd p (c * r)) := by
  have hlo := H.2.2.2.2.2.1
  unfold Val at hx hy
  obtain ⟨s, m, i, rx, ex⟩ := hx
  obtain ⟨u, n, j, ry, ey⟩ := hy
  have hmul : f.mul x y = some (f.nearest (s ^^ u) (m * n) ((i : Int) - ((t + 110 : Nat) : Int) + ((j : Int) - ((t + 110 : Nat) : Int)))) := by
    unfold Format.mul
    rw [rx, ry]; rfl
  refine ⟨_, hmul, ?_⟩
  have e1 := abs_mul_pow ex
  have e2 := abs_mul_pow ey
  rw [Int.natAbs_mul, Int.natAbs_pow, show (2 : Int).natAbs = 2 from rfl] at e1
  have hU : m * n * 2 ^ (i + j) = (c * r).natAbs * 2 ^ (t + (t + 110)) := by
    rw [Nat.pow_add, show m * n * (2 ^ i * 2 ^ j) = m * 2 ^ i * (n * 2 ^ j) from Nat.mul_mul_mul_comm _ _ _ _, e1, e2, Int.natAbs_mul]
    rw [Nat.pow_add 2 t (t + 110), Nat.pow_add 2 t 110]
    generalize 2 ^ 110 = P
    generalize 2 ^ t = Q
    simp only [Nat.mul_assoc, Nat.mul_left_comm, Nat.mul_comm]
  have hn := nearest_val H (s ^^ u) (m * n) (i + j) (t + 110) (c * r).natAbs ((i : Int) - ((t + 110 : Nat) : Int) + ((j : Int) - ((t + 110 : Nat) : Int))) (by omega) hU (pow200 hb)
  by_cases h0 : c * r = 0
  · rw [h0] at hn ⊢
    rw [rnd_zero]
    rw [show (0 : Int).natAbs = 0 from rfl, rndN_zero, sgnd_zero] at hn
    exact hn
  · have hc0 : c ≠ 0 := fun h => h0 (by rw [h, Int.zero_mul])
    have hr0 : r ≠ 0 := fun h => h0 (by rw [h, Int.mul_zero])
    have s1 : s = decide (c < 0) := by
      have := sign_of ex (fun h => by rcases Int.mul_eq_zero.1 h with h | h; exact hc0 h; exact absurd h (Int.ne_of_gt (two_powI 110)))
      rw [this, decide_eq_decide]
      have hp := two_powI 110
      constructor
      · intro h
        rcases Int.lt_or_le c 0 with h5 | h5
        · exact h5
        · have := Int.mul_nonneg h5 (Int.le_of_lt hp); omega
      · intro h; exact Int.mul_neg_of_neg_of_pos h hp
    have s2 := sign_of ey hr0
    have e3 : c * r = sgnd (s ^^ u) (c * r).natAbs := by
      rw [Int.natAbs_mul, ← sgnd_prod, s1, s2, sgnd_of, sgnd_of]
    rw [show rnd p (c * r) = sgnd (s ^^ u) (rndN p (c * r).natAbs) by rw [← rnd_sgnd, ← e3]]
    exact hn
theorem int_val {f : Format} {p lo t M : Nat} (H : Std f p lo t M) {c : Int} (hb : c.natAbs < 2 ^ (p + 1)) (h2 : c.natAbs < 2 ^ 90) : Val f t (f.write (.number (decide (c < 0)) c.natAbs 0)) (c * 2 ^ 110) := by
  have hlo := H.2.2.2.2.2.1
  have hn := nearest_val H (decide (c < 0)) c.natAbs (t + 110) 0 (c.natAbs * 2 ^ 110) 0 (by omega) (by rw [Nat.mul_assoc, ← Nat.pow_add, show 110 + (t + 0) = t + 110 by omega]) (by
    have : c.natAbs * 2 ^ 110 < 2 ^ 90 * 2 ^ 110 := Nat.mul_lt_mul_of_pos_right h2 (Nat.two_pow_pos _)
    rwa [← Nat.pow_add] at this)
  rw [rndN_exact hb, ← sgnd_mul, sgnd_of] at hn
  rw [cast_powI] at hn
  exact hn
/-- How two words stand to each other. -/
theorem order_val {f : Format} {t x y : Nat} {v w : Int} (hx : Val f t x v) (hy : Val f t y w) : f.order x y = some (compare v w) := by
  obtain ⟨s, m, i, rx, ex⟩ := hx
  obtain ⟨u, n, j, ry, ey⟩ := hy
  obtain ⟨b, hbm⟩ : ∃ b, b = min i j := ⟨_, rfl⟩
  have hbase : min ((i : Int) - ((t + 110 : Nat) : Int)) ((j : Int) - ((t + 110 : Nat) : Int)) = (b : Int) - ((t + 110 : Nat) : Int) := by omega
  have hss : ∀ (s : Bool) (m k : Nat), signed s m k = sgnd s (m * 2 ^ k) := fun s m k => by simp [signed, sgnd, Nat.shiftLeft_eq]
  unfold Format.order
  rw [rx, ry]
  simp only [Datum.order, hbase]
  rw [hss, hss, show ((i : Int) - ((t + 110 : Nat) : Int) - ((b : Int) - ((t + 110 : Nat) : Int))).toNat = i - b by omega, show ((j : Int) - ((t + 110 : Nat) : Int) - ((b : Int) - ((t + 110 : Nat) : Int))).toNat = j - b by omega]
  have ev : sgnd s (m * 2 ^ (i - b)) * 2 ^ b = v * 2 ^ t := by rw [← cast_powI b, sgnd_mul, Nat.mul_assoc, ← Nat.pow_add, show i - b + b = i by omega, ex]
  have ew : sgnd u (n * 2 ^ (j - b)) * 2 ^ b = w * 2 ^ t := by rw [← cast_powI b, sgnd_mul, Nat.mul_assoc, ← Nat.pow_add, show j - b + b = j by omega, ey]
  generalize sgnd s (m * 2 ^ (i - b)) = p at *
  generalize sgnd u (n * 2 ^ (j - b)) = q at *
  have hp := two_powI t
  have hpb := two_powI b
  congr 1
  rcases Int.lt_trichotomy v w with h | h | h
  · have h1 : v * 2 ^ t < w * 2 ^ t := Int.mul_lt_mul_of_pos_right h hp
    rw [← ev, ← ew] at h1
    have h2 : p < q := Int.lt_of_mul_lt_mul_right h1 (Int.le_of_lt hpb)
    rw [Int.compare_eq_lt.2 h, Int.compare_eq_lt.2 h2]
  · subst h
    have h2 : p = q := Int.eq_of_mul_eq_mul_right (Int.ne_of_gt hpb) (ev.trans ew.symm)
    rw [Int.compare_eq_eq.2 rfl, Int.compare_eq_eq.2 h2]
  · have h1 : w * 2 ^ t < v * 2 ^ t := Int.mul_lt_mul_of_pos_right h hp
    rw [← ev, ← ew] at h1
    have h2 : q < p := Int.lt_of_mul_lt_mul_right h1 (Int.le_of_lt hpb)
    rw [Int.compare_eq_gt.2 h, Int.compare_eq_gt.2 h2]
/-- What a constant stands for. -/
theorem const_val {f : Format} {t x : Nat} (s : Bool) (m b : Nat) (place : Int) (hp : place = (b : Int) - 110) (h : f.read x = .number s m place) : Val f t x (sgnd s (m * 2 ^ b)) :=
  ⟨s, m, b + t, by rw [h, hp]; congr 1; omega, by rw [← cast_powI t, sgnd_mul, Nat.mul_assoc, ← Nat.pow_add]⟩
end Go.Proofs.Ytmbhbocfnpklpaa
