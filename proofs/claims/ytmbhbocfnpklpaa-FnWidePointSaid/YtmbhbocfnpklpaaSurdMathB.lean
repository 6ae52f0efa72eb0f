/-
  Signs, second part: greatest whole numbers, sizes.
-/
import Derived.Test.YtmbhbocfnpklpaaSurdMath
namespace Go.Proofs.Ytmbhbocfnpklpaa
set_option linter.unusedVariables false
set_option linter.unusedSimpArgs false

theorem p4_int {n : Int} (h : 0 < n) : P4 n 0 0 0 := by
  have h2 : 0 < n * n := Int.mul_pos h h
  refine .inl ⟨.inl ⟨h, ?_⟩, .inl ⟨?_, ?_⟩⟩
  · show 0 < n * n - 2 * 0 * 0; omega
  · show 0 < (n * n + 2 * 0 * 0) - ((3 * 0 + 2 * 0 * 0) * 0 + 2 * (3 * 0 + 0 * 0) * 0); omega
  · show 0 < ((n * n + 2 * 0 * 0) - ((3 * 0 + 2 * 0 * 0) * 0 + 2 * (3 * 0 + 0 * 0) * 0)) * ((n * n + 2 * 0 * 0) - ((3 * 0 + 2 * 0 * 0) * 0 + 2 * (3 * 0 + 0 * 0) * 0)) - 2 * ((n * 0 + 0 * n) - ((3 * 0 + 2 * 0 * 0) * 0 + (3 * 0 + 0 * 0) * 0)) * ((n * 0 + 0 * n) - ((3 * 0 + 2 * 0 * 0) * 0 + (3 * 0 + 0 * 0) * 0))
    have h3 := Int.mul_pos h2 h2
    simp
    exact h3
theorem p4_one {p q : Half} (h1 : PH p) (h2 : PH (p * p - three * q * q)) : P4 p.x p.y q.x q.y := .inl ⟨h1, h2⟩
theorem p4_lin2 {n b : Int} (h : 0 < n) (hb : 2 * b * b < n * n) : P4 n b 0 0 := by
  have h1 : PH ⟨n, b⟩ := .inl ⟨h, by show 0 < n * n - 2 * b * b; omega⟩
  refine p4_one (p := ⟨n, b⟩) (q := 0) h1 ?_
  have h2 := Two.p_mul h1 h1
  rwa [show (⟨n, b⟩ * ⟨n, b⟩ : Half) = ⟨n, b⟩ * ⟨n, b⟩ - three * 0 * 0 by apply Half.ext <;> simp only [Half.subx, Half.suby, Half.mulx, Half.muly, Half.zx, Half.zy] <;> grind] at h2
theorem ph_int {n : Int} (h : 0 < n) : PH ⟨n, 0⟩ := .inl ⟨h, by show 0 < n * n - 2 * 0 * 0; have := Int.mul_pos h h; omega⟩
theorem p4_lin3 {n c : Int} (h : 0 < n) (hc : 3 * c * c < n * n) : P4 n 0 c 0 := by
  refine p4_one (p := ⟨n, 0⟩) (q := ⟨c, 0⟩) (ph_int h) ?_
  have h2 := ph_int (n := n * n - 3 * c * c) (by omega)
  rwa [show (⟨n * n - 3 * c * c, 0⟩ : Half) = ⟨n, 0⟩ * ⟨n, 0⟩ - three * ⟨c, 0⟩ * ⟨c, 0⟩ by apply Half.ext <;> simp only [Half.subx, Half.suby, Half.mulx, Half.muly, tx, ty] <;> grind] at h2
theorem p4_lin6 {n e : Int} (h : 0 < n) (he : 6 * e * e < n * n) : P4 n 0 0 e := by
  refine p4_one (p := ⟨n, 0⟩) (q := ⟨0, e⟩) (ph_int h) ?_
  have h2 := ph_int (n := n * n - 6 * e * e) (by omega)
  rwa [show (⟨n * n - 6 * e * e, 0⟩ : Half) = ⟨n, 0⟩ * ⟨n, 0⟩ - three * ⟨0, e⟩ * ⟨0, e⟩ by apply Half.ext <;> simp only [Half.subx, Half.suby, Half.mulx, Half.muly, tx, ty] <;> grind] at h2
theorem sq_le {x : Int} (X : Nat) (h : -(X : Int) ≤ x ∧ x ≤ X) : 0 ≤ x * x ∧ x * x ≤ ((X * X : Nat) : Int) := by
  refine ⟨sq_nonneg x, ?_⟩
  have h1 : x.natAbs ≤ X := by omega
  have h3 : x.natAbs * x.natAbs ≤ X * X := Nat.mul_le_mul h1 h1
  have h4 : ((x.natAbs * x.natAbs : Nat) : Int) = x * x := by
    rcases Int.natAbs_eq x with e | e
    · rw [Int.natCast_mul, ← e]
    · conv => rhs; rw [e]
      rw [Int.neg_mul_neg, Int.natCast_mul]
  omega
theorem far {a b c e : Int} (ha : -10000000 ≤ a ∧ a ≤ 10000000) (hb : -10000000 ≤ b ∧ b ≤ 10000000) (hc : -10000000 ≤ c ∧ c ≤ 10000000) (he : -10000000 ≤ e ∧ e ≤ 10000000) : P4 (a + 80000000) b c e := by
  have h1 := sq_le 10000000 hb; have h2 := sq_le 10000000 hc; have h3 := sq_le 10000000 he
  simp only [Nat.reduceMul] at h1 h2 h3
  have k1 : P4 20000000 b 0 0 := p4_lin2 (by decide) (by rw [Int.mul_assoc]; omega)
  have k2 : P4 20000000 0 c 0 := p4_lin3 (by decide) (by rw [Int.mul_assoc]; omega)
  have k3 : P4 25000000 0 0 e := p4_lin6 (by decide) (by rw [Int.mul_assoc]; omega)
  have k4 : P4 (a + 15000000) 0 0 0 := p4_int (by omega)
  have := p4_add (p4_add k1 k2) (p4_add k3 k4)
  rwa [show (20000000 : Int) + 20000000 + (25000000 + (a + 15000000)) = a + 80000000 by omega, show b + 0 + (0 + 0) = b by omega, show 0 + c + (0 + 0) = c by omega, show 0 + 0 + (e + 0) = e by omega] at this
theorem sg4_neg1 {a b c e : Int} : sg4 a b c e = -1 ↔ P4 (-a) (-b) (-c) (-e) := by
  rw [← sg4_pos, sg4_neg]; omega
theorem far_low {a b c e : Int} (ha : -10000000 ≤ a ∧ a ≤ 10000000) (hb : -10000000 ≤ b ∧ b ≤ 10000000) (hc : -10000000 ≤ c ∧ c ≤ 10000000) (he : -10000000 ≤ e ∧ e ≤ 10000000) : 0 ≤ sg4 (a - 4 * -20000000) b c e := by
  have := sg4_pos.2 (far ha hb hc he)
  rw [show a - 4 * -20000000 = a + 80000000 by omega]; omega
theorem far_high {a b c e : Int} (ha : -10000000 ≤ a ∧ a ≤ 10000000) (hb : -10000000 ≤ b ∧ b ≤ 10000000) (hc : -10000000 ≤ c ∧ c ≤ 10000000) (he : -10000000 ≤ e ∧ e ≤ 10000000) : sg4 (a - 4 * 20000000) b c e < 0 := by
  have := far (a := -a) (b := -b) (c := -c) (e := -e) (by omega) (by omega) (by omega) (by omega)
  rw [show -a + 80000000 = -(a - 4 * 20000000) by omega] at this
  have := sg4_neg1.2 this; omega
/-- n is the greatest whole number that is at most the surd. -/
def Wh (a b c e n : Int) : Prop := 0 ≤ sg4 (a - 4 * n) b c e ∧ sg4 (a - 4 * (n + 1)) b c e < 0
theorem wh_less {a b c e n m : Int} (h1 : 0 ≤ sg4 (a - 4 * n) b c e) (h2 : sg4 (a - 4 * (m + 1)) b c e < 0) : n ≤ m := by
  have h3 : P4 (-(a - 4 * (m + 1))) (-b) (-c) (-e) := sg4_neg1.1 (by have := sg4_range (a - 4 * (m + 1)) b c e; omega)
  rcases is4 (a - 4 * n) b c e with ⟨_, k⟩ | ⟨k, _⟩ | ⟨_, k1, rfl, rfl, rfl⟩
  · have h := p4_add h3 k
    rw [show -(a - 4 * (m + 1)) + (a - 4 * n) = 4 * (m + 1 - n) by omega, show -b + b = 0 by omega, show -c + c = 0 by omega, show -e + e = 0 by omega] at h
    by_cases g : 0 < m + 1 - n
    · omega
    · exfalso
      by_cases g2 : m + 1 - n = 0
      · rw [g2] at h; exact p4_zero h
      · have := p4_int (n := -(4 * (m + 1 - n))) (by omega)
        exact p4_not h this
  · omega
  · by_cases g : 0 < m + 1 - n
    · omega
    · exfalso
      rw [show -(a - 4 * (m + 1)) = 4 * (m + 1 - n) by omega] at h3
      by_cases g2 : m + 1 - n = 0
      · rw [g2] at h3; exact p4_zero h3
      · have := p4_int (n := -(4 * (m + 1 - n))) (by omega)
        exact p4_not h3 this
theorem wh_one {a b c e n m : Int} (h1 : Wh a b c e n) (h2 : Wh a b c e m) : n = m := by
  have := wh_less h1.1 h2.2; have := wh_less h2.1 h1.2; omega
theorem wh_from {a b c e : Int} : ∀ (k : Nat) (l : Int), 0 ≤ sg4 (a - 4 * l) b c e → sg4 (a - 4 * (l + k + 1)) b c e < 0 → ∃ n, Wh a b c e n
  | 0, l, h1, h2 => ⟨l, h1, by rwa [show l + ((0 : Nat) : Int) + 1 = l + 1 by omega] at h2⟩
  | k + 1, l, h1, h2 => by
    by_cases h : sg4 (a - 4 * (l + 1)) b c e < 0
    · exact ⟨l, h1, h⟩
    · exact wh_from k (l + 1) (by omega) (by rwa [show l + ((k + 1 : Nat) : Int) + 1 = l + 1 + (k : Int) + 1 by omega] at h2)
theorem wh_some {a b c e : Int} (ha : -10000000 ≤ a ∧ a ≤ 10000000) (hb : -10000000 ≤ b ∧ b ≤ 10000000) (hc : -10000000 ≤ c ∧ c ≤ 10000000) (he : -10000000 ≤ e ∧ e ≤ 10000000) : ∃ n, Wh a b c e n :=
  wh_from 39999999 (-20000000) (far_low ha hb hc he) (far_high ha hb hc he)
end Go.Proofs.Ytmbhbocfnpklpaa
