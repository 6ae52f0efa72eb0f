/-
  Floats: quarters, the two formats, conversions, and the words of sums and products by name.
-/
import Derived.Test.YtmbhbocfnpklpaaFloat
import Derived.WalkLawsBesides
namespace Go.Proofs.Ytmbhbocfnpklpaa
set_option maxRecDepth 20000
set_option linter.unusedVariables false
set_option linter.unusedSimpArgs false
open Ieee

theorem read_mant {f : Format} {p lo t M : Nat} (H : Std f p lo t M) {x m : Nat} {s : Bool} {e : Int} (h : f.read x = .number s m e) : m < 2 ^ (p + 1) := by
  obtain ⟨-, -, hb, -, -, -⟩ := H
  have hp : 0 < 2 ^ p := Nat.two_pow_pos p
  unfold Format.read at h
  rw [hb] at h
  rw [Nat.pow_succ]
  simp only at h
  split at h
  · rename_i h1; cases h; omega
  · split at h
    · rename_i h1 h2
      injection h with _ e2 _
      have := Nat.mod_lt (x % f.signWeight) hp
      omega
    · split at h <;> cases h
theorem quarter_val {f : Format} {p lo t M : Nat} (H : Std f p lo t M) {x y : Nat} {w : Int} (hx : Val f t x (4 * w)) (hy : f.read y = .number false (2 ^ p) (2 - (p : Int)))
    (hb : -1606938044258990275541962092341162602522202993782792835301375 ≤ w ∧ w ≤ 1606938044258990275541962092341162602522202993782792835301375) :
    ∃ z, f.div x y = some z ∧ Val f t z (rnd p w) := by
  have hlo := H.2.2.2.2.2.1
  have hf := H.1
  unfold Val at hx
  obtain ⟨s, m, i, rx, ex⟩ := hx
  have hm := read_mant H rx
  have hml : m.log2 ≤ p := by
    rcases Nat.eq_zero_or_pos m with rfl | h
    · rw [show Nat.log2 0 = 0 by decide]; omega
    · have := (Nat.log2_lt (by omega)).2 hm; omega
  obtain ⟨k, hk⟩ : ∃ k, k = p + 2 + p - m.log2 := ⟨_, rfl⟩
  have hpp : 0 < 2 ^ p := Nat.two_pow_pos p
  have e1 : m * 2 ^ k = m * 2 ^ (k - p) * 2 ^ p := by rw [Nat.mul_assoc, ← Nat.pow_add, show k - p + p = k by omega]
  have hdiv : f.div x y = some (f.nearest s (2 * (m * 2 ^ (k - p))) ((i : Int) - ((t + 110 : Nat) : Int) - (2 - (p : Int)) - (k : Int) - 1)) := by
    unfold Format.div
    rw [rx, hy, hf]
    simp only [Datum.quotient]
    rw [if_neg (Nat.ne_of_gt hpp), Nat.log2_two_pow, ← hk, Nat.shiftLeft_eq, e1, Nat.mul_div_cancel _ hpp, Nat.mul_mod_left]
    simp [Format.write]
  refine ⟨_, hdiv, ?_⟩
  have e2 := abs_mul_pow ex
  rw [Int.natAbs_mul, show (4 : Int).natAbs = 4 from rfl] at e2
  have hU : 2 * (m * 2 ^ (k - p)) * 2 ^ i = w.natAbs * 2 ^ (t + (k - p + 3)) := by
    have e3 : 2 * (m * 2 ^ (k - p)) * 2 ^ i = 2 * (m * 2 ^ i) * 2 ^ (k - p) := by
      rw [Nat.mul_assoc, Nat.mul_assoc, Nat.mul_assoc, Nat.mul_comm (2 ^ (k - p)), ← Nat.mul_assoc m]
    rw [e3, e2, Nat.pow_add, Nat.pow_add]
    generalize 2 ^ t = T
    generalize 2 ^ (k - p) = K
    rw [show 2 ^ 3 = 8 by rfl, show 2 * (4 * w.natAbs * T) * K = 8 * (w.natAbs * T * K) by rw [← Nat.mul_assoc, ← Nat.mul_assoc, Nat.mul_assoc, Nat.mul_assoc, ← Nat.mul_assoc w.natAbs], Nat.mul_comm 8, Nat.mul_assoc, Nat.mul_assoc]
  have hn := nearest_val H s (2 * (m * 2 ^ (k - p))) i (k - p + 3) w.natAbs ((i : Int) - ((t + 110 : Nat) : Int) - (2 - (p : Int)) - (k : Int) - 1) (by omega) hU (pow200 hb)
  by_cases h0 : w = 0
  · subst h0
    rw [rnd_zero]
    rw [show (0 : Int).natAbs = 0 from rfl, rndN_zero, sgnd_zero] at hn
    exact hn
  · have hs := sign_of ex (by omega)
    have hs2 : s = decide (w < 0) := by rw [hs, decide_eq_decide]; omega
    rw [show rnd p w = sgnd s (rndN p w.natAbs) by rw [hs2]; rfl]
    exact hn

/-! ### The two formats -/
def tD : Nat := 964
theorem tD_eq : tD = 964 := rfl
def tS : Nat := 39
theorem tS_eq : tS = 39 := rfl
attribute [irreducible] tD tS
theorem stdD : Std double 52 1074 tD 2047 := by
  refine ⟨rfl, by decide, by decide, by decide, by decide, ?_, ?_, ?_⟩ <;> rw [tD_eq] <;> decide
theorem stdS : Std single 23 149 tS 255 := by
  refine ⟨rfl, by decide, by decide, by decide, by decide, ?_, ?_, ?_⟩ <;> rw [tS_eq] <;> decide
def ValD (x : Nat) (v : Int) : Prop := Val double tD x v
def ValS (x : Nat) (v : Int) : Prop := Val single tS x v
/-- A float of 32 bits is one of 64 bits. -/
theorem wider {x : Nat} {v : Int} (hx : ValS x v) (hb : -1606938044258990275541962092341162602522202993782792835301375 ≤ v ∧ v ≤ 1606938044258990275541962092341162602522202993782792835301375) : ∃ z, floatToFloatBits .f32 x .f64 = some z ∧ ValD z v := by
  unfold ValS at hx
  obtain ⟨s, m, b, rx, ex⟩ := hx
  have hm := read_mant stdS rx
  have e1 := abs_mul_pow ex
  have tS1 := tS_eq
  have tD1 := tD_eq
  -- rounded already
  have hex : rndN 52 v.natAbs = v.natAbs := by
    by_cases hc : tS ≤ b
    · have e2 : v.natAbs = m * 2 ^ (b - tS) := by
        have e3 : m * 2 ^ b = m * 2 ^ (b - tS) * 2 ^ tS := by rw [Nat.mul_assoc, ← Nat.pow_add, show b - tS + tS = b by omega]
        rw [e3] at e1
        exact (Nat.eq_of_mul_eq_mul_right (Nat.two_pow_pos tS) e1).symm
      rw [e2]
      refine rndN_exact (Nat.lt_of_lt_of_le hm ?_) _
      exact Nat.pow_le_pow_right (by decide) (by decide)
    · have e2 : m = v.natAbs * 2 ^ (tS - b) := by
        have e3 : v.natAbs * 2 ^ tS = v.natAbs * 2 ^ (tS - b) * 2 ^ b := by rw [Nat.mul_assoc, ← Nat.pow_add, show tS - b + b = tS by omega]
        rw [e3] at e1
        exact Nat.eq_of_mul_eq_mul_right (Nat.two_pow_pos b) e1
      have hle : v.natAbs ≤ m := by
        rw [e2]; exact Nat.le_mul_of_pos_right _ (Nat.two_pow_pos _)
      have := rndN_exact (p := 52) (n := v.natAbs) (Nat.lt_of_le_of_lt hle (Nat.lt_of_lt_of_le hm (Nat.pow_le_pow_right (by decide) (by decide)))) 0
      rwa [Nat.pow_zero, Nat.mul_one] at this
  have hU : m * 2 ^ (b + (tD - tS)) = v.natAbs * 2 ^ (tD + 0) := by
    rw [Nat.pow_add, ← Nat.mul_assoc, e1, Nat.mul_assoc, ← Nat.pow_add]; congr 2; omega
  have hn := nearest_val stdD s m (b + (tD - tS)) 0 v.natAbs ((b : Int) - ((tS + 110 : Nat) : Int)) (by omega) hU (pow200 hb)
  have hval : sgnd s (rndN 52 v.natAbs) = v := by
    rw [hex]
    by_cases h0 : v = 0
    · subst h0; exact sgnd_zero s
    · rw [sign_of ex h0, sgnd_of]
  rw [hval] at hn
  have hd : FloatKind.f32.decode x = .number s m ((b : Int) - ((tS + 110 : Nat) : Int)) := rx
  refine ⟨double.nearest s m ((b : Int) - ((tS + 110 : Nat) : Int)), ?_, hn⟩
  obtain ⟨s2, m2, b2, r2, -⟩ := hn
  have hd2 : FloatKind.f64.decode (FloatKind.f64.encode (.number s m ((b : Int) - ((tS + 110 : Nat) : Int)))) = .number s2 m2 ((b2 : Int) - ((tD + 110 : Nat) : Int)) := r2
  unfold floatToFloatBits
  rw [if_neg (by decide), hd]
  simp only [hd2]
  simp [Datum.isInfinity]
  rfl
end Go.Proofs.Ytmbhbocfnpklpaa
