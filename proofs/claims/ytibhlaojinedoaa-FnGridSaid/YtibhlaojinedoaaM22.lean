/-
  Signs of a + b root 2 + c root 3 + d root 6: what is greater than 0 is closed under sums and products, and how signs are found with whole numbers alone.
  Contracts of what signs are made of: comparisons, sizes, products of 128 bits, and the sign of a sum.
  Contracts of impl's halves and radicals: structs of 64-bit numbers to calculate with.
  Contracts of impl's signs of radicals, and how surds become radicals.
-/
import Derived.Test.YtibhlaojinedoaaM00
import Derived.Test.YtibhlaojinedoaaM01
import Derived.Shelf.Bits.Mul64
import Derived.Deep.RegionWith
import Derived.StillTailTactics
import Derived.Test.YtibhlaojinedoaaM02
import Derived.Deep.DeepCutAuto
/- Signs of a + b root 2 + c root 3 + d root 6: what is greater than 0 is closed under sums and products, and how signs are found with whole numbers alone. -/
namespace Go.Proofs.Ytibhlaojinedoaa
set_option maxRecDepth 20000
set_option linter.unusedVariables false
set_option linter.unusedSimpArgs false
/-! ### Signs of whole numbers -/
def sg1 (n : Int) : Int := if 0 < n then 1 else if n < 0 then -1 else 0
/-- The sign of a sum, by the signs of both and of the difference of their squares. -/
def joined (s t u : Int) : Int := if s = -t then s * u else sg1 (s + t)
/-! ### Whole numbers: greater than 0 -/
def PI (n : Int) : Prop := 0 < n
instance (n : Int) : Decidable (PI n) := by unfold PI; exact inferInstance
namespace One
variable {d : Int}
theorem p_add {a b : Int} (h1 : PI a) (h2 : PI b) : PI (a + b) := by unfold PI at *; omega
theorem p_mul {a b : Int} (h1 : PI a) (h2 : PI b) : PI (a * b) := Int.mul_pos h1 h2
theorem p_tri (a : Int) : a = 0 ∨ PI a ∨ PI (-a) := by unfold PI; omega
theorem p_zero : ¬ PI 0 := fun h => absurd h (Int.lt_irrefl 0)
theorem p_not {a : Int} (ha : PI a) : ¬ PI (-a) := fun hb => p_zero (by have := p_add ha hb; rwa [show a + -a = 0 by grind] at this)
theorem p_ne {a : Int} (ha : PI a) : a ≠ 0 := fun e => p_zero (e ▸ ha)
theorem p_sq {a : Int} (ha : a ≠ 0) : PI (a * a) := by
  rcases p_tri a with e | e | e
  · exact absurd e ha
  · exact p_mul e e
  · have := p_mul e e; rwa [show -a * -a = a * a by grind] at this
/-- The greater square prevails. -/
theorem p_big {u v : Int} (hu : PI u) (hs : PI (u * u - v * v)) : PI (u + v) := by
  rcases p_tri (u + v) with e | e | e
  · rw [show u * u - v * v = (u + v) * (u - v) by grind, e, show (0 : Int) * (u - v) = 0 by grind] at hs; exact (p_zero hs).elim
  · exact e
  · have h1 := p_add (p_add hu hu) e
    rw [show u + u + -(u + v) = u - v by grind] at h1
    have h2 := p_mul h1 e
    rw [show (u - v) * -(u + v) = -(u * u - v * v) by grind] at h2
    exact absurd h2 (p_not hs)
/-- p + q root d is greater than 0. -/
def Up (d p q : Int) : Prop := (PI p ∧ PI (p * p - d * q * q)) ∨ (PI q ∧ PI (d * q * q - p * p))

theorem up_mul (hd : PI d) {p q r s : Int} (h1 : Up d p q) (h2 : Up d r s) : Up d (p * r + d * q * s) (p * s + q * r) := by
  rcases h1 with ⟨a, b⟩ | ⟨a, b⟩ <;> rcases h2 with ⟨c, e⟩ | ⟨c, e⟩
  · refine .inl ⟨p_big (p_mul a c) ?_, ?_⟩
    · by_cases hq : q = 0
      · subst hq; have := p_mul (p_mul a c) (p_mul a c); rwa [show p * r * (p * r) = p * r * (p * r) - d * 0 * s * (d * 0 * s) by grind] at this
      · have h3 := p_add (p_mul b (p_mul c c)) (p_mul (p_mul hd (p_sq hq)) e)
        rwa [show (p * p - d * q * q) * (r * r) + d * (q * q) * (r * r - d * s * s) = p * r * (p * r) - d * q * s * (d * q * s) by grind] at h3
    · have := p_mul b e; rwa [show (p * p - d * q * q) * (r * r - d * s * s) = (p * r + d * q * s) * (p * r + d * q * s) - d * (p * s + q * r) * (p * s + q * r) by grind] at this
  · refine .inr ⟨p_big (p_mul a c) ?_, ?_⟩
    · by_cases hq : q = 0
      · subst hq; have := p_mul (p_mul a c) (p_mul a c); rwa [show p * s * (p * s) = p * s * (p * s) - 0 * r * (0 * r) by grind] at this
      · have h3 := p_add (p_mul b (p_mul c c)) (p_mul (p_sq hq) e)
        rwa [show (p * p - d * q * q) * (s * s) + q * q * (d * s * s - r * r) = p * s * (p * s) - q * r * (q * r) by grind] at h3
    · have := p_mul b e; rwa [show (p * p - d * q * q) * (d * s * s - r * r) = d * (p * s + q * r) * (p * s + q * r) - (p * r + d * q * s) * (p * r + d * q * s) by grind] at this
  · refine .inr ⟨?_, ?_⟩
    · rw [show p * s + q * r = q * r + p * s by grind]
      refine p_big (p_mul a c) ?_
      by_cases hs : s = 0
      · subst hs; have := p_mul (p_mul a c) (p_mul a c); rwa [show q * r * (q * r) = q * r * (q * r) - p * 0 * (p * 0) by grind] at this
      · have h3 := p_add (p_mul e (p_mul a a)) (p_mul (p_sq hs) b)
        rwa [show (r * r - d * s * s) * (q * q) + s * s * (d * q * q - p * p) = q * r * (q * r) - p * s * (p * s) by grind] at h3
    · have := p_mul b e; rwa [show (d * q * q - p * p) * (r * r - d * s * s) = d * (p * s + q * r) * (p * s + q * r) - (p * r + d * q * s) * (p * r + d * q * s) by grind] at this
  · refine .inl ⟨?_, ?_⟩
    · rw [show p * r + d * q * s = d * q * s + p * r by grind]
      refine p_big (p_mul (p_mul hd a) c) ?_
      by_cases hr : r = 0
      · subst hr; have := p_mul (p_mul (p_mul hd a) c) (p_mul (p_mul hd a) c); rwa [show d * q * s * (d * q * s) = d * q * s * (d * q * s) - p * 0 * (p * 0) by grind] at this
      · have h3 := p_add (p_mul e (p_mul hd (p_mul a a))) (p_mul (p_sq hr) b)
        rwa [show (d * s * s - r * r) * (d * (q * q)) + r * r * (d * q * q - p * p) = d * q * s * (d * q * s) - p * r * (p * r) by grind] at h3
    · have := p_mul b e; rwa [show (d * q * q - p * p) * (d * s * s - r * r) = (p * r + d * q * s) * (p * r + d * q * s) - d * (p * s + q * r) * (p * s + q * r) by grind] at this

/-- No number's square is d times another's, but 0's. -/
def Root (d : Int) : Prop := ∀ p q : Int, p * p - d * q * q = 0 → p = 0 ∧ q = 0

theorem up_zero : ¬ Up d 0 0 := by
  rintro (⟨a, b⟩ | ⟨a, b⟩) <;> exact p_zero a
theorem up_tri (hd : PI d) (hr : Root d) (p q : Int) : (p = 0 ∧ q = 0) ∨ Up d p q ∨ Up d (-p) (-q) := by
  rcases p_tri (p * p - d * q * q) with e | e | e
  · exact .inl (hr p q e)
  · rcases p_tri p with f | f | f
    · subst f
      by_cases hq : q = 0
      · exact .inl ⟨rfl, hq⟩
      · have := p_mul hd (p_sq hq)
        rw [show (0 : Int) * 0 - d * q * q = -(d * (q * q)) by grind] at e
        exact absurd e (p_not this)
    · exact .inr (.inl (.inl ⟨f, e⟩))
    · exact .inr (.inr (.inl ⟨f, by rwa [show -p * -p - d * -q * -q = p * p - d * q * q by grind]⟩))
  · rw [show -(p * p - d * q * q) = d * q * q - p * p by grind] at e
    rcases p_tri q with f | f | f
    · subst f
      by_cases hq : p = 0
      · exact .inl ⟨hq, rfl⟩
      · have := p_sq hq
        rw [show d * 0 * 0 - p * p = -(p * p) by grind] at e
        exact absurd e (p_not this)
    · exact .inr (.inl (.inr ⟨f, e⟩))
    · exact .inr (.inr (.inr ⟨f, by rwa [show d * -q * -q - -p * -p = d * q * q - p * p by grind]⟩))
theorem up_not {p q : Int} (ha : Up d p q) (hb : Up d (-p) (-q)) : False := by
  rcases ha with ⟨a, b⟩ | ⟨a, b⟩ <;> rcases hb with ⟨c, e⟩ | ⟨c, e⟩
  · exact p_not a c
  · refine p_not b ?_; rwa [show -(p * p - d * q * q) = d * -q * -q - -p * -p by grind]
  · refine p_not b ?_; rwa [show -(d * q * q - p * p) = -p * -p - d * -q * -q by grind]
  · exact p_not a c
theorem up_nat (hd : PI d) (hr : Root d) {n u v : Int} (hn : PI n) (hu : Up d u v) : Up d (n + u) v := by
  rcases hu with ⟨a, b⟩ | ⟨a, b⟩
  · refine .inl ⟨p_add hn a, ?_⟩
    have := p_add (p_add b (p_mul hn hn)) (p_add (p_mul hn a) (p_mul hn a))
    rwa [show u * u - d * v * v + n * n + (n * u + n * u) = (n + u) * (n + u) - d * v * v by grind] at this
  · rcases p_tri ((n + u) * (n + u) - d * v * v) with e | e | e
    · have := (hr _ _ e).2; exact absurd this (p_ne a)
    · rcases p_tri (n + u) with f | f | f
      · rw [f, show (0 : Int) * 0 - d * v * v = -(d * (v * v)) by grind] at e
        exact absurd e (p_not (p_mul hd (p_sq (p_ne a))))
      · exact .inl ⟨f, e⟩
      · -- n + u < 0: its square is less than u's
        exfalso
        have h1 := p_add (p_add (p_mul hn hn) (p_mul hn f)) (p_mul hn f)
        have h2 := p_add (p_add h1 e) b
        exact p_zero (by rwa [show n * n + n * -(n + u) + n * -(n + u) + ((n + u) * (n + u) - d * v * v) + (d * v * v - u * u) = 0 by grind] at h2)
    · exact .inr ⟨a, by rwa [show -((n + u) * (n + u) - d * v * v) = d * v * v - (n + u) * (n + u) by grind] at e⟩
theorem up_add_in (hd : PI d) (hr : Root d) {p q r s : Int} (a : PI p) (b : PI (p * p - d * q * q)) (h2 : Up d r s) : Up d (p + r) (q + s) := by
  have hc : Up d p (-q) := .inl ⟨a, by rwa [show p * p - d * -q * -q = p * p - d * q * q by grind]⟩
  have h3 := up_nat hd hr b (up_mul hd h2 hc)
  rcases up_tri hd hr (p + r) (q + s) with e | e | e
  · exfalso
    refine up_zero (d := d) ?_
    have e1 : r = -p := by
      have : p + r + -p = 0 + -p := congrArg (· + -p) e.1
      rwa [show p + r + -p = r by grind, show 0 + -p = -p by grind] at this
    have e2 : s = -q := by
      have : q + s + -q = 0 + -q := congrArg (· + -q) e.2
      rwa [show q + s + -q = s by grind, show 0 + -q = -q by grind] at this
    rwa [show p * p - d * q * q + (r * p + d * s * -q) = 0 by rw [e1, e2]; grind, show r * -q + s * p = 0 by rw [e1, e2]; grind] at h3
  · exact e
  · have h4 := up_mul hd e hc
    refine (up_not h3 ?_).elim
    rwa [show -(p * p - d * q * q + (r * p + d * s * -q)) = -(p + r) * p + d * -(q + s) * -q by grind, show -(r * -q + s * p) = -(p + r) * -q + -(q + s) * p by grind]
theorem up_add (hd : PI d) (hr : Root d) {p q r s : Int} (h1 : Up d p q) (h2 : Up d r s) : Up d (p + r) (q + s) := by
  rcases h1 with ⟨a, b⟩ | ⟨a, b⟩
  · exact up_add_in hd hr a b h2
  · rcases h2 with ⟨c, e⟩ | ⟨c, e⟩
    · have := up_add_in hd hr c e (.inr ⟨a, b⟩)
      rwa [show r + p = p + r by grind, show s + q = q + s by grind] at this
    · refine .inr ⟨p_add a c, ?_⟩
      have h3 : PI (d * q * s + p * r) := by
        refine p_big (p_mul (p_mul hd a) c) ?_
        by_cases hz : r = 0
        · subst hz; have := p_mul (p_mul (p_mul hd a) c) (p_mul (p_mul hd a) c); rwa [show d * q * s * (d * q * s) = d * q * s * (d * q * s) - p * 0 * (p * 0) by grind] at this
        · have h3 := p_add (p_mul e (p_mul hd (p_mul a a))) (p_mul (p_sq hz) b)
          rwa [show (d * s * s - r * r) * (d * (q * q)) + r * r * (d * q * q - p * p) = d * q * s * (d * q * s) - p * r * (p * r) by grind] at h3
      have h4 : PI (d * q * s - p * r) := by
        rw [show d * q * s - p * r = d * q * s + p * -r by grind]
        refine p_big (p_mul (p_mul hd a) c) ?_
        by_cases hz : r = 0
        · subst hz; have := p_mul (p_mul (p_mul hd a) c) (p_mul (p_mul hd a) c); rwa [show d * q * s * (d * q * s) = d * q * s * (d * q * s) - p * -0 * (p * -0) by grind] at this
        · have h3 := p_add (p_mul e (p_mul hd (p_mul a a))) (p_mul (p_sq hz) b)
          rwa [show (d * s * s - r * r) * (d * (q * q)) + r * r * (d * q * q - p * p) = d * q * s * (d * q * s) - p * -r * (p * -r) by grind] at h3
      have h5 := p_add (p_add b e) (p_add h4 h4)
      rwa [show d * q * q - p * p + (d * s * s - r * r) + (d * q * s - p * r + (d * q * s - p * r)) = d * (q + s) * (q + s) - (p + r) * (p + r) by grind] at h5
/-- s is a number's sign. -/
def Is (x : Int) (s : Int) : Prop := (s = 1 ∧ PI x) ∨ (s = -1 ∧ PI (-x)) ∨ (s = 0 ∧ x = 0)
def IsUp (d p q : Int) (s : Int) : Prop := (s = 1 ∧ Up d p q) ∨ (s = -1 ∧ Up d (-p) (-q)) ∨ (s = 0 ∧ p = 0 ∧ q = 0)
theorem is_joined {d : Int} (hd : PI d) (hr : Root d) {p q : Int} {s t u : Int}
    (hs : Is p s) (ht : Is q t) (hu : Is (p * p - d * q * q) u) : IsUp d p q (joined s t u) := by
  have hn : -(p * p - d * q * q) = d * q * q - p * p := by grind
  rcases hs with ⟨rfl, a⟩ | ⟨rfl, a⟩ | ⟨rfl, a⟩ <;> rcases ht with ⟨rfl, b⟩ | ⟨rfl, b⟩ | ⟨rfl, b⟩ <;> rcases hu with ⟨rfl, c⟩ | ⟨rfl, c⟩ | ⟨rfl, c⟩ <;>
    first
    | (rw [hn] at c; simp only [show joined 1 1 (-1) = 1 by decide, show joined 1 (-1) (-1) = -1 by decide, show joined 0 1 (-1) = 1 by decide, show joined (-1) 1 (-1) = 1 by decide, show joined (-1) (-1) (-1) = -1 by decide, show joined 0 (-1) (-1) = -1 by decide]
       first
       | exact .inl ⟨rfl, .inr ⟨b, c⟩⟩
       | (refine .inr (.inl ⟨rfl, .inr ⟨b, ?_⟩⟩); rwa [show d * -q * -q - -p * -p = d * q * q - p * p by grind]))
    | (simp only [show joined 1 1 1 = 1 by decide, show joined 1 0 1 = 1 by decide, show joined 1 (-1) 1 = 1 by decide, show joined (-1) 1 1 = -1 by decide, show joined (-1) 0 1 = -1 by decide, show joined (-1) (-1) 1 = -1 by decide]
       first
       | exact .inl ⟨rfl, .inl ⟨a, c⟩⟩
       | (refine .inr (.inl ⟨rfl, .inl ⟨a, ?_⟩⟩); rwa [show -p * -p - d * -q * -q = p * p - d * q * q by grind]))
    | (have := hr p q c; first | exact absurd this.1 (p_ne a) | exact absurd this.2 (p_ne b) | exact absurd (show -p = 0 by rw [this.1]; grind) (p_ne a) | exact absurd (show -q = 0 by rw [this.2]; grind) (p_ne b))
    | exact .inr (.inr ⟨by decide, a, b⟩)
    | (exfalso; subst a; subst b; exact p_zero (by first | rwa [show (0 : Int) * 0 - d * 0 * 0 = 0 by grind] at c | rwa [show -((0 : Int) * 0 - d * 0 * 0) = 0 by grind] at c))
    | (exfalso; subst a; refine p_not (p_mul hd (p_mul b b)) ?_; first | rwa [show -(d * (q * q)) = (0:Int) * 0 - d * q * q by grind] | rwa [show -(d * (-q * -q)) = (0:Int) * 0 - d * q * q by grind])
    | (exfalso; subst b; refine p_not (p_mul a a) ?_; first | rwa [show -(p * p) = -(p * p - d * 0 * 0) by grind] | rwa [show -(-p * -p) = -(p * p - d * 0 * 0) by grind])
theorem up_one {d p q : Int} {s t : Int} (hs : IsUp d p q s) (ht : IsUp d p q t) : s = t := by
  have n0 : -(0 : Int) = 0 := by grind
  rcases hs with ⟨rfl, a⟩ | ⟨rfl, a⟩ | ⟨rfl, rfl, rfl⟩ <;> rcases ht with ⟨rfl, b⟩ | ⟨rfl, b⟩ | ⟨rfl, b, c⟩ <;>
    first | rfl | exact (up_not a b).elim | exact (up_not b a).elim | exact (up_zero (by subst b; subst c; first | exact a | rwa [n0] at a)).elim | exact (up_zero b).elim | exact (up_zero (by rwa [n0] at b)).elim
end One

/-- x + y root 2, with whole numbers. -/
structure Half where
  x : Int
  y : Int
deriving DecidableEq
theorem Half.ext {a b : Half} (hx : a.x = b.x) (hy : a.y = b.y) : a = b := by
  cases a; cases b
  simp only at hx hy
  rw [hx, hy]
namespace Half
instance : Add Half := ⟨fun a b => ⟨a.x + b.x, a.y + b.y⟩⟩
instance : Mul Half := ⟨fun a b => ⟨a.x * b.x + 2 * a.y * b.y, a.x * b.y + a.y * b.x⟩⟩
instance : Neg Half := ⟨fun a => ⟨-a.x, -a.y⟩⟩
instance : Sub Half := ⟨fun a b => ⟨a.x - b.x, a.y - b.y⟩⟩
instance : OfNat Half 0 := ⟨⟨0, 0⟩⟩
theorem addx (a b : Half) : (a + b).x = a.x + b.x := rfl
theorem addy (a b : Half) : (a + b).y = a.y + b.y := rfl
theorem mulx (a b : Half) : (a * b).x = a.x * b.x + 2 * a.y * b.y := rfl
theorem muly (a b : Half) : (a * b).y = a.x * b.y + a.y * b.x := rfl
theorem negx (a : Half) : (-a).x = -a.x := rfl
theorem negy (a : Half) : (-a).y = -a.y := rfl
theorem subx (a b : Half) : (a - b).x = a.x - b.x := rfl
theorem suby (a b : Half) : (a - b).y = a.y - b.y := rfl
theorem zx : (0 : Half).x = 0 := rfl
theorem zy : (0 : Half).y = 0 := rfl
end Half
/-! ### No square is twice another, nor three times in what has root 2 -/
theorem even_of_sq {a : Int} (h : (a * a) % 2 = 0) : a % 2 = 0 := by
  rcases Int.emod_two_eq a with e | e
  · exact e
  · rw [Int.mul_emod, e] at h; exact absurd h (by decide)
theorem root2 : ∀ (n : Nat) (a b : Int), b.natAbs ≤ n → a * a = 2 * (b * b) → b = 0
  | 0, a, b, hb, _ => by omega
  | n + 1, a, b, hb, h => by
    have ha := even_of_sq (a := a) (by omega)
    obtain ⟨c, rfl⟩ : ∃ c, a = 2 * c := ⟨a / 2, by omega⟩
    have h2 : b * b = 2 * (c * c) := by grind
    have hb2 := even_of_sq (a := b) (by omega)
    obtain ⟨e, rfl⟩ : ∃ e, b = 2 * e := ⟨b / 2, by omega⟩
    have h3 : c * c = 2 * (e * e) := by grind
    have := root2 n c e (by omega) h3
    omega
theorem root_int : One.Root (2 : Int) := fun p q h => by
  have hq := root2 q.natAbs p q (Nat.le_refl _) (by grind)
  subst hq
  have hp : p * p = 0 := by grind
  exact ⟨by rcases Int.mul_eq_zero.1 hp with e | e <;> exact e, rfl⟩

/-- a + b root 2 is greater than 0. -/
def P2 (a b : Int) : Prop := One.Up 2 a b
def PH (h : Half) : Prop := P2 h.x h.y
namespace Two
variable {d : Half}
open Half
theorem p_add {a b : Half} (h1 : PH a) (h2 : PH b) : PH (a + b) := One.up_add (by decide : (0:Int) < 2) root_int h1 h2
theorem p_mul {a b : Half} (h1 : PH a) (h2 : PH b) : PH (a * b) := by have h3 := One.up_mul (by decide : (0:Int) < 2) h1 h2; exact h3
theorem p_tri (a : Half) : a = 0 ∨ PH a ∨ PH (-a) := by
  rcases One.up_tri (by decide : (0:Int) < 2) root_int a.x a.y with e | e | e
  · exact .inl (Half.ext e.1 e.2)
  · exact .inr (.inl e)
  · exact .inr (.inr e)
theorem p_zero : ¬ PH 0 := fun h => One.up_zero h
theorem p_not {a : Half} (ha : PH a) : ¬ PH (-a) := fun hb => p_zero (by have := p_add ha hb; rwa [show a + -a = 0 by (apply Half.ext <;> simp only [addx, addy, subx, suby, mulx, muly, negx, negy, zx, zy] <;> grind)] at this)
theorem p_ne {a : Half} (ha : PH a) : a ≠ 0 := fun e => p_zero (e ▸ ha)
theorem p_sq {a : Half} (ha : a ≠ 0) : PH (a * a) := by
  rcases p_tri a with e | e | e
  · exact absurd e ha
  · exact p_mul e e
  · have := p_mul e e; rwa [show -a * -a = a * a by (apply Half.ext <;> simp only [addx, addy, subx, suby, mulx, muly, negx, negy, zx, zy] <;> grind)] at this
/-- The greater square prevails. -/
theorem p_big {u v : Half} (hu : PH u) (hs : PH (u * u - v * v)) : PH (u + v) := by
  rcases p_tri (u + v) with e | e | e
  · rw [show u * u - v * v = (u + v) * (u - v) by (apply Half.ext <;> simp only [addx, addy, subx, suby, mulx, muly, negx, negy, zx, zy] <;> grind), e, show (0 : Half) * (u - v) = 0 by (apply Half.ext <;> simp only [addx, addy, subx, suby, mulx, muly, negx, negy, zx, zy] <;> grind)] at hs; exact (p_zero hs).elim
  · exact e
  · have h1 := p_add (p_add hu hu) e
    rw [show u + u + -(u + v) = u - v by (apply Half.ext <;> simp only [addx, addy, subx, suby, mulx, muly, negx, negy, zx, zy] <;> grind)] at h1
    have h2 := p_mul h1 e
    rw [show (u - v) * -(u + v) = -(u * u - v * v) by (apply Half.ext <;> simp only [addx, addy, subx, suby, mulx, muly, negx, negy, zx, zy] <;> grind)] at h2
    exact absurd h2 (p_not hs)
/-- p + q root d is greater than 0. -/
def Up (d p q : Half) : Prop := (PH p ∧ PH (p * p - d * q * q)) ∨ (PH q ∧ PH (d * q * q - p * p))

theorem up_mul (hd : PH d) {p q r s : Half} (h1 : Up d p q) (h2 : Up d r s) : Up d (p * r + d * q * s) (p * s + q * r) := by
  rcases h1 with ⟨a, b⟩ | ⟨a, b⟩ <;> rcases h2 with ⟨c, e⟩ | ⟨c, e⟩
  · refine .inl ⟨p_big (p_mul a c) ?_, ?_⟩
    · by_cases hq : q = 0
      · subst hq; have := p_mul (p_mul a c) (p_mul a c); rwa [show p * r * (p * r) = p * r * (p * r) - d * 0 * s * (d * 0 * s) by (apply Half.ext <;> simp only [addx, addy, subx, suby, mulx, muly, negx, negy, zx, zy] <;> grind)] at this
      · have h3 := p_add (p_mul b (p_mul c c)) (p_mul (p_mul hd (p_sq hq)) e)
        rwa [show (p * p - d * q * q) * (r * r) + d * (q * q) * (r * r - d * s * s) = p * r * (p * r) - d * q * s * (d * q * s) by (apply Half.ext <;> simp only [addx, addy, subx, suby, mulx, muly, negx, negy, zx, zy] <;> grind)] at h3
    · have := p_mul b e; rwa [show (p * p - d * q * q) * (r * r - d * s * s) = (p * r + d * q * s) * (p * r + d * q * s) - d * (p * s + q * r) * (p * s + q * r) by (apply Half.ext <;> simp only [addx, addy, subx, suby, mulx, muly, negx, negy, zx, zy] <;> grind)] at this
  · refine .inr ⟨p_big (p_mul a c) ?_, ?_⟩
    · by_cases hq : q = 0
      · subst hq; have := p_mul (p_mul a c) (p_mul a c); rwa [show p * s * (p * s) = p * s * (p * s) - 0 * r * (0 * r) by (apply Half.ext <;> simp only [addx, addy, subx, suby, mulx, muly, negx, negy, zx, zy] <;> grind)] at this
      · have h3 := p_add (p_mul b (p_mul c c)) (p_mul (p_sq hq) e)
        rwa [show (p * p - d * q * q) * (s * s) + q * q * (d * s * s - r * r) = p * s * (p * s) - q * r * (q * r) by (apply Half.ext <;> simp only [addx, addy, subx, suby, mulx, muly, negx, negy, zx, zy] <;> grind)] at h3
    · have := p_mul b e; rwa [show (p * p - d * q * q) * (d * s * s - r * r) = d * (p * s + q * r) * (p * s + q * r) - (p * r + d * q * s) * (p * r + d * q * s) by (apply Half.ext <;> simp only [addx, addy, subx, suby, mulx, muly, negx, negy, zx, zy] <;> grind)] at this
  · refine .inr ⟨?_, ?_⟩
    · rw [show p * s + q * r = q * r + p * s by (apply Half.ext <;> simp only [addx, addy, subx, suby, mulx, muly, negx, negy, zx, zy] <;> grind)]
      refine p_big (p_mul a c) ?_
      by_cases hs : s = 0
      · subst hs; have := p_mul (p_mul a c) (p_mul a c); rwa [show q * r * (q * r) = q * r * (q * r) - p * 0 * (p * 0) by (apply Half.ext <;> simp only [addx, addy, subx, suby, mulx, muly, negx, negy, zx, zy] <;> grind)] at this
      · have h3 := p_add (p_mul e (p_mul a a)) (p_mul (p_sq hs) b)
        rwa [show (r * r - d * s * s) * (q * q) + s * s * (d * q * q - p * p) = q * r * (q * r) - p * s * (p * s) by (apply Half.ext <;> simp only [addx, addy, subx, suby, mulx, muly, negx, negy, zx, zy] <;> grind)] at h3
    · have := p_mul b e; rwa [show (d * q * q - p * p) * (r * r - d * s * s) = d * (p * s + q * r) * (p * s + q * r) - (p * r + d * q * s) * (p * r + d * q * s) by (apply Half.ext <;> simp only [addx, addy, subx, suby, mulx, muly, negx, negy, zx, zy] <;> grind)] at this
  · refine .inl ⟨?_, ?_⟩
    · rw [show p * r + d * q * s = d * q * s + p * r by (apply Half.ext <;> simp only [addx, addy, subx, suby, mulx, muly, negx, negy, zx, zy] <;> grind)]
      refine p_big (p_mul (p_mul hd a) c) ?_
      by_cases hr : r = 0
      · subst hr; have := p_mul (p_mul (p_mul hd a) c) (p_mul (p_mul hd a) c); rwa [show d * q * s * (d * q * s) = d * q * s * (d * q * s) - p * 0 * (p * 0) by (apply Half.ext <;> simp only [addx, addy, subx, suby, mulx, muly, negx, negy, zx, zy] <;> grind)] at this
      · have h3 := p_add (p_mul e (p_mul hd (p_mul a a))) (p_mul (p_sq hr) b)
        rwa [show (d * s * s - r * r) * (d * (q * q)) + r * r * (d * q * q - p * p) = d * q * s * (d * q * s) - p * r * (p * r) by (apply Half.ext <;> simp only [addx, addy, subx, suby, mulx, muly, negx, negy, zx, zy] <;> grind)] at h3
    · have := p_mul b e; rwa [show (d * q * q - p * p) * (d * s * s - r * r) = (p * r + d * q * s) * (p * r + d * q * s) - d * (p * s + q * r) * (p * s + q * r) by (apply Half.ext <;> simp only [addx, addy, subx, suby, mulx, muly, negx, negy, zx, zy] <;> grind)] at this

/-- No number's square is d times another's, but 0's. -/
def Root (d : Half) : Prop := ∀ p q : Half, p * p - d * q * q = 0 → p = 0 ∧ q = 0

theorem up_zero : ¬ Up d 0 0 := by
  rintro (⟨a, b⟩ | ⟨a, b⟩) <;> exact p_zero a
theorem up_tri (hd : PH d) (hr : Root d) (p q : Half) : (p = 0 ∧ q = 0) ∨ Up d p q ∨ Up d (-p) (-q) := by
  rcases p_tri (p * p - d * q * q) with e | e | e
  · exact .inl (hr p q e)
  · rcases p_tri p with f | f | f
    · subst f
      by_cases hq : q = 0
      · exact .inl ⟨rfl, hq⟩
      · have := p_mul hd (p_sq hq)
        rw [show (0 : Half) * 0 - d * q * q = -(d * (q * q)) by (apply Half.ext <;> simp only [addx, addy, subx, suby, mulx, muly, negx, negy, zx, zy] <;> grind)] at e
        exact absurd e (p_not this)
    · exact .inr (.inl (.inl ⟨f, e⟩))
    · exact .inr (.inr (.inl ⟨f, by rwa [show -p * -p - d * -q * -q = p * p - d * q * q by (apply Half.ext <;> simp only [addx, addy, subx, suby, mulx, muly, negx, negy, zx, zy] <;> grind)]⟩))
  · rw [show -(p * p - d * q * q) = d * q * q - p * p by (apply Half.ext <;> simp only [addx, addy, subx, suby, mulx, muly, negx, negy, zx, zy] <;> grind)] at e
    rcases p_tri q with f | f | f
    · subst f
      by_cases hq : p = 0
      · exact .inl ⟨hq, rfl⟩
      · have := p_sq hq
        rw [show d * 0 * 0 - p * p = -(p * p) by (apply Half.ext <;> simp only [addx, addy, subx, suby, mulx, muly, negx, negy, zx, zy] <;> grind)] at e
        exact absurd e (p_not this)
    · exact .inr (.inl (.inr ⟨f, e⟩))
    · exact .inr (.inr (.inr ⟨f, by rwa [show d * -q * -q - -p * -p = d * q * q - p * p by (apply Half.ext <;> simp only [addx, addy, subx, suby, mulx, muly, negx, negy, zx, zy] <;> grind)]⟩))
theorem up_not {p q : Half} (ha : Up d p q) (hb : Up d (-p) (-q)) : False := by
  rcases ha with ⟨a, b⟩ | ⟨a, b⟩ <;> rcases hb with ⟨c, e⟩ | ⟨c, e⟩
  · exact p_not a c
  · refine p_not b ?_; rwa [show -(p * p - d * q * q) = d * -q * -q - -p * -p by (apply Half.ext <;> simp only [addx, addy, subx, suby, mulx, muly, negx, negy, zx, zy] <;> grind)]
  · refine p_not b ?_; rwa [show -(d * q * q - p * p) = -p * -p - d * -q * -q by (apply Half.ext <;> simp only [addx, addy, subx, suby, mulx, muly, negx, negy, zx, zy] <;> grind)]
  · exact p_not a c
theorem up_nat (hd : PH d) (hr : Root d) {n u v : Half} (hn : PH n) (hu : Up d u v) : Up d (n + u) v := by
  rcases hu with ⟨a, b⟩ | ⟨a, b⟩
  · refine .inl ⟨p_add hn a, ?_⟩
    have := p_add (p_add b (p_mul hn hn)) (p_add (p_mul hn a) (p_mul hn a))
    rwa [show u * u - d * v * v + n * n + (n * u + n * u) = (n + u) * (n + u) - d * v * v by (apply Half.ext <;> simp only [addx, addy, subx, suby, mulx, muly, negx, negy, zx, zy] <;> grind)] at this
  · rcases p_tri ((n + u) * (n + u) - d * v * v) with e | e | e
    · have := (hr _ _ e).2; exact absurd this (p_ne a)
    · rcases p_tri (n + u) with f | f | f
      · rw [f, show (0 : Half) * 0 - d * v * v = -(d * (v * v)) by (apply Half.ext <;> simp only [addx, addy, subx, suby, mulx, muly, negx, negy, zx, zy] <;> grind)] at e
        exact absurd e (p_not (p_mul hd (p_sq (p_ne a))))
      · exact .inl ⟨f, e⟩
      · -- n + u < 0: its square is less than u's
        exfalso
        have h1 := p_add (p_add (p_mul hn hn) (p_mul hn f)) (p_mul hn f)
        have h2 := p_add (p_add h1 e) b
        exact p_zero (by rwa [show n * n + n * -(n + u) + n * -(n + u) + ((n + u) * (n + u) - d * v * v) + (d * v * v - u * u) = 0 by (apply Half.ext <;> simp only [addx, addy, subx, suby, mulx, muly, negx, negy, zx, zy] <;> grind)] at h2)
    · exact .inr ⟨a, by rwa [show -((n + u) * (n + u) - d * v * v) = d * v * v - (n + u) * (n + u) by (apply Half.ext <;> simp only [addx, addy, subx, suby, mulx, muly, negx, negy, zx, zy] <;> grind)] at e⟩
theorem up_add_in (hd : PH d) (hr : Root d) {p q r s : Half} (a : PH p) (b : PH (p * p - d * q * q)) (h2 : Up d r s) : Up d (p + r) (q + s) := by
  have hc : Up d p (-q) := .inl ⟨a, by rwa [show p * p - d * -q * -q = p * p - d * q * q by (apply Half.ext <;> simp only [addx, addy, subx, suby, mulx, muly, negx, negy, zx, zy] <;> grind)]⟩
  have h3 := up_nat hd hr b (up_mul hd h2 hc)
  rcases up_tri hd hr (p + r) (q + s) with e | e | e
  · exfalso
    refine up_zero (d := d) ?_
    have e1 : r = -p := by
      have : p + r + -p = 0 + -p := congrArg (· + -p) e.1
      rwa [show p + r + -p = r by (apply Half.ext <;> simp only [addx, addy, subx, suby, mulx, muly, negx, negy, zx, zy] <;> grind), show 0 + -p = -p by (apply Half.ext <;> simp only [addx, addy, subx, suby, mulx, muly, negx, negy, zx, zy] <;> grind)] at this
    have e2 : s = -q := by
      have : q + s + -q = 0 + -q := congrArg (· + -q) e.2
      rwa [show q + s + -q = s by (apply Half.ext <;> simp only [addx, addy, subx, suby, mulx, muly, negx, negy, zx, zy] <;> grind), show 0 + -q = -q by (apply Half.ext <;> simp only [addx, addy, subx, suby, mulx, muly, negx, negy, zx, zy] <;> grind)] at this
    rwa [show p * p - d * q * q + (r * p + d * s * -q) = 0 by rw [e1, e2]; (apply Half.ext <;> simp only [addx, addy, subx, suby, mulx, muly, negx, negy, zx, zy] <;> grind), show r * -q + s * p = 0 by rw [e1, e2]; (apply Half.ext <;> simp only [addx, addy, subx, suby, mulx, muly, negx, negy, zx, zy] <;> grind)] at h3
  · exact e
  · have h4 := up_mul hd e hc
    refine (up_not h3 ?_).elim
    rwa [show -(p * p - d * q * q + (r * p + d * s * -q)) = -(p + r) * p + d * -(q + s) * -q by (apply Half.ext <;> simp only [addx, addy, subx, suby, mulx, muly, negx, negy, zx, zy] <;> grind), show -(r * -q + s * p) = -(p + r) * -q + -(q + s) * p by (apply Half.ext <;> simp only [addx, addy, subx, suby, mulx, muly, negx, negy, zx, zy] <;> grind)]
theorem up_add (hd : PH d) (hr : Root d) {p q r s : Half} (h1 : Up d p q) (h2 : Up d r s) : Up d (p + r) (q + s) := by
  rcases h1 with ⟨a, b⟩ | ⟨a, b⟩
  · exact up_add_in hd hr a b h2
  · rcases h2 with ⟨c, e⟩ | ⟨c, e⟩
    · have := up_add_in hd hr c e (.inr ⟨a, b⟩)
      rwa [show r + p = p + r by (apply Half.ext <;> simp only [addx, addy, subx, suby, mulx, muly, negx, negy, zx, zy] <;> grind), show s + q = q + s by (apply Half.ext <;> simp only [addx, addy, subx, suby, mulx, muly, negx, negy, zx, zy] <;> grind)] at this
    · refine .inr ⟨p_add a c, ?_⟩
      have h3 : PH (d * q * s + p * r) := by
        refine p_big (p_mul (p_mul hd a) c) ?_
        by_cases hz : r = 0
        · subst hz; have := p_mul (p_mul (p_mul hd a) c) (p_mul (p_mul hd a) c); rwa [show d * q * s * (d * q * s) = d * q * s * (d * q * s) - p * 0 * (p * 0) by (apply Half.ext <;> simp only [addx, addy, subx, suby, mulx, muly, negx, negy, zx, zy] <;> grind)] at this
        · have h3 := p_add (p_mul e (p_mul hd (p_mul a a))) (p_mul (p_sq hz) b)
          rwa [show (d * s * s - r * r) * (d * (q * q)) + r * r * (d * q * q - p * p) = d * q * s * (d * q * s) - p * r * (p * r) by (apply Half.ext <;> simp only [addx, addy, subx, suby, mulx, muly, negx, negy, zx, zy] <;> grind)] at h3
      have h4 : PH (d * q * s - p * r) := by
        rw [show d * q * s - p * r = d * q * s + p * -r by (apply Half.ext <;> simp only [addx, addy, subx, suby, mulx, muly, negx, negy, zx, zy] <;> grind)]
        refine p_big (p_mul (p_mul hd a) c) ?_
        by_cases hz : r = 0
        · subst hz; have := p_mul (p_mul (p_mul hd a) c) (p_mul (p_mul hd a) c); rwa [show d * q * s * (d * q * s) = d * q * s * (d * q * s) - p * -0 * (p * -0) by (apply Half.ext <;> simp only [addx, addy, subx, suby, mulx, muly, negx, negy, zx, zy] <;> grind)] at this
        · have h3 := p_add (p_mul e (p_mul hd (p_mul a a))) (p_mul (p_sq hz) b)
          rwa [show (d * s * s - r * r) * (d * (q * q)) + r * r * (d * q * q - p * p) = d * q * s * (d * q * s) - p * -r * (p * -r) by (apply Half.ext <;> simp only [addx, addy, subx, suby, mulx, muly, negx, negy, zx, zy] <;> grind)] at h3
      have h5 := p_add (p_add b e) (p_add h4 h4)
      rwa [show d * q * q - p * p + (d * s * s - r * r) + (d * q * s - p * r + (d * q * s - p * r)) = d * (q + s) * (q + s) - (p + r) * (p + r) by (apply Half.ext <;> simp only [addx, addy, subx, suby, mulx, muly, negx, negy, zx, zy] <;> grind)] at h5
/-- s is a number's sign. -/
def Is (x : Half) (s : Int) : Prop := (s = 1 ∧ PH x) ∨ (s = -1 ∧ PH (-x)) ∨ (s = 0 ∧ x = 0)
def IsUp (d p q : Half) (s : Int) : Prop := (s = 1 ∧ Up d p q) ∨ (s = -1 ∧ Up d (-p) (-q)) ∨ (s = 0 ∧ p = 0 ∧ q = 0)
theorem is_joined {d : Half} (hd : PH d) (hr : Root d) {p q : Half} {s t u : Int}
    (hs : Is p s) (ht : Is q t) (hu : Is (p * p - d * q * q) u) : IsUp d p q (joined s t u) := by
  have hn : -(p * p - d * q * q) = d * q * q - p * p := by (apply Half.ext <;> simp only [addx, addy, subx, suby, mulx, muly, negx, negy, zx, zy] <;> grind)
  rcases hs with ⟨rfl, a⟩ | ⟨rfl, a⟩ | ⟨rfl, a⟩ <;> rcases ht with ⟨rfl, b⟩ | ⟨rfl, b⟩ | ⟨rfl, b⟩ <;> rcases hu with ⟨rfl, c⟩ | ⟨rfl, c⟩ | ⟨rfl, c⟩ <;>
    first
    | (rw [hn] at c; simp only [show joined 1 1 (-1) = 1 by decide, show joined 1 (-1) (-1) = -1 by decide, show joined 0 1 (-1) = 1 by decide, show joined (-1) 1 (-1) = 1 by decide, show joined (-1) (-1) (-1) = -1 by decide, show joined 0 (-1) (-1) = -1 by decide]
       first
       | exact .inl ⟨rfl, .inr ⟨b, c⟩⟩
       | (refine .inr (.inl ⟨rfl, .inr ⟨b, ?_⟩⟩); rwa [show d * -q * -q - -p * -p = d * q * q - p * p by (apply Half.ext <;> simp only [addx, addy, subx, suby, mulx, muly, negx, negy, zx, zy] <;> grind)]))
    | (simp only [show joined 1 1 1 = 1 by decide, show joined 1 0 1 = 1 by decide, show joined 1 (-1) 1 = 1 by decide, show joined (-1) 1 1 = -1 by decide, show joined (-1) 0 1 = -1 by decide, show joined (-1) (-1) 1 = -1 by decide]
       first
       | exact .inl ⟨rfl, .inl ⟨a, c⟩⟩
       | (refine .inr (.inl ⟨rfl, .inl ⟨a, ?_⟩⟩); rwa [show -p * -p - d * -q * -q = p * p - d * q * q by (apply Half.ext <;> simp only [addx, addy, subx, suby, mulx, muly, negx, negy, zx, zy] <;> grind)]))
    | (have := hr p q c; first | exact absurd this.1 (p_ne a) | exact absurd this.2 (p_ne b) | exact absurd (show -p = 0 by rw [this.1]; (apply Half.ext <;> simp only [addx, addy, subx, suby, mulx, muly, negx, negy, zx, zy] <;> grind)) (p_ne a) | exact absurd (show -q = 0 by rw [this.2]; (apply Half.ext <;> simp only [addx, addy, subx, suby, mulx, muly, negx, negy, zx, zy] <;> grind)) (p_ne b))
    | exact .inr (.inr ⟨by decide, a, b⟩)
    | (exfalso; subst a; subst b; exact p_zero (by first | rwa [show (0 : Half) * 0 - d * 0 * 0 = 0 by (apply Half.ext <;> simp only [addx, addy, subx, suby, mulx, muly, negx, negy, zx, zy] <;> grind)] at c | rwa [show -((0 : Half) * 0 - d * 0 * 0) = 0 by (apply Half.ext <;> simp only [addx, addy, subx, suby, mulx, muly, negx, negy, zx, zy] <;> grind)] at c))
    | (exfalso; subst a; refine p_not (p_mul hd (p_mul b b)) ?_; first | rwa [show -(d * (q * q)) = (0:Half) * 0 - d * q * q by (apply Half.ext <;> simp only [addx, addy, subx, suby, mulx, muly, negx, negy, zx, zy] <;> grind)] | rwa [show -(d * (-q * -q)) = (0:Half) * 0 - d * q * q by (apply Half.ext <;> simp only [addx, addy, subx, suby, mulx, muly, negx, negy, zx, zy] <;> grind)])
    | (exfalso; subst b; refine p_not (p_mul a a) ?_; first | rwa [show -(p * p) = -(p * p - d * 0 * 0) by (apply Half.ext <;> simp only [addx, addy, subx, suby, mulx, muly, negx, negy, zx, zy] <;> grind)] | rwa [show -(-p * -p) = -(p * p - d * 0 * 0) by (apply Half.ext <;> simp only [addx, addy, subx, suby, mulx, muly, negx, negy, zx, zy] <;> grind)])
theorem up_one {d p q : Half} {s t : Int} (hs : IsUp d p q s) (ht : IsUp d p q t) : s = t := by
  have n0 : -(0 : Half) = 0 := by (apply Half.ext <;> simp only [addx, addy, subx, suby, mulx, muly, negx, negy, zx, zy] <;> grind)
  rcases hs with ⟨rfl, a⟩ | ⟨rfl, a⟩ | ⟨rfl, rfl, rfl⟩ <;> rcases ht with ⟨rfl, b⟩ | ⟨rfl, b⟩ | ⟨rfl, b, c⟩ <;>
    first | rfl | exact (up_not a b).elim | exact (up_not b a).elim | exact (up_zero (by subst b; subst c; first | exact a | rwa [n0] at a)).elim | exact (up_zero b).elim | exact (up_zero (by rwa [n0] at b)).elim
end Two
theorem by3 {a b : Int} (h : (a * a + 2 * (b * b)) % 3 = 0) (hp : (a * b) % 3 = 0) : a % 3 = 0 ∧ b % 3 = 0 := by
  have ha : a % 3 = 0 ∨ a % 3 = 1 ∨ a % 3 = 2 := by omega
  have hb : b % 3 = 0 ∨ b % 3 = 1 ∨ b % 3 = 2 := by omega
  rw [Int.add_emod, Int.mul_emod a a, Int.mul_emod 2, Int.mul_emod b b] at h
  rw [Int.mul_emod] at hp
  rcases ha with ha | ha | ha <;> rcases hb with hb | hb | hb <;> rw [ha, hb] at h hp <;> first | exact ⟨ha, hb⟩ | exact absurd h (by decide) | exact absurd hp (by decide)
theorem root3 : ∀ (n : Nat) (a b c e : Int), c.natAbs + e.natAbs ≤ n → a * a + 2 * (b * b) = 3 * (c * c + 2 * (e * e)) → a * b = 3 * (c * e) → c = 0 ∧ e = 0
  | 0, a, b, c, e, hn, _, _ => by omega
  | n + 1, a, b, c, e, hn, h1, h2 => by
    obtain ⟨ha, hb⟩ := by3 (a := a) (b := b) (by omega) (by omega)
    obtain ⟨x, rfl⟩ : ∃ x, a = 3 * x := ⟨a / 3, by omega⟩
    obtain ⟨y, rfl⟩ : ∃ y, b = 3 * y := ⟨b / 3, by omega⟩
    have h3 : c * c + 2 * (e * e) = 3 * (x * x + 2 * (y * y)) := by grind
    have h4 : c * e = 3 * (x * y) := by grind
    obtain ⟨hc, he⟩ := by3 (a := c) (b := e) (by omega) (by omega)
    obtain ⟨z, rfl⟩ : ∃ z, c = 3 * z := ⟨c / 3, by omega⟩
    obtain ⟨w, rfl⟩ : ∃ w, e = 3 * w := ⟨e / 3, by omega⟩
    have h5 : x * x + 2 * (y * y) = 3 * (z * z + 2 * (w * w)) := by grind
    have h6 : x * y = 3 * (z * w) := by grind
    have := root3 n x y z w (by omega) h5 h6
    omega
theorem sq_nonneg (a : Int) : 0 ≤ a * a := by
  rcases Int.le_total 0 a with h | h
  · exact Int.mul_nonneg h h
  · exact Int.mul_nonneg_of_nonpos_of_nonpos h h
theorem sq_zero {a b : Int} (h : a * a + 2 * (b * b) = 0) : a = 0 ∧ b = 0 := by
  have h1 := sq_nonneg a
  have h2 := sq_nonneg b
  have h3 : a * a = 0 := by omega
  have h4 : b * b = 0 := by omega
  exact ⟨by rcases Int.mul_eq_zero.1 h3 with e | e <;> exact e, by rcases Int.mul_eq_zero.1 h4 with e | e <;> exact e⟩
def three : Half := ⟨3, 0⟩
theorem tx : three.x = 3 := rfl
theorem ty : three.y = 0 := rfl
theorem root_half : Two.Root three := fun p q h => by
  have hx := congrArg Half.x h
  have hy := congrArg Half.y h
  simp only [Half.subx, Half.suby, Half.mulx, Half.muly, tx, ty, Half.zx, Half.zy] at hx hy
  have h3 := root3 _ p.x p.y q.x q.y (Nat.le_refl _) (by grind) (by grind)
  rw [h3.1, h3.2] at hx
  have h4 := sq_zero (a := p.x) (b := p.y) (by grind)
  exact ⟨Half.ext h4.1 h4.2, Half.ext h3.1 h3.2⟩


theorem ph3 : PH three := .inl ⟨by decide, by decide⟩
/-- a + b root 2 + c root 3 + e root 6 is greater than 0. -/
def P4 (a b c e : Int) : Prop := Two.Up three (Half.mk a b) (Half.mk c e)
theorem p4_add {a b c e a' b' c' e' : Int} (h1 : P4 a b c e) (h2 : P4 a' b' c' e') : P4 (a + a') (b + b') (c + c') (e + e') := Two.up_add ph3 root_half h1 h2
theorem p4_mul {a b c e a' b' c' e' : Int} (h1 : P4 a b c e) (h2 : P4 a' b' c' e') :
    P4 (a * a' + 2 * b * b' + 3 * c * c' + 6 * e * e') (a * b' + b * a' + 3 * (c * e' + e * c')) (a * c' + c * a' + 2 * (b * e' + e * b')) (a * e' + e * a' + b * c' + c * b') := by
  have h3 := Two.up_mul ph3 h1 h2
  refine Eq.mp ?_ h3
  unfold P4
  congr 1
  · apply Half.ext <;> simp only [Half.addx, Half.addy, Half.mulx, Half.muly, tx, ty] <;> grind
  · apply Half.ext <;> simp only [Half.addx, Half.addy, Half.mulx, Half.muly, tx, ty] <;> grind
theorem p4_tri (a b c e : Int) : (a = 0 ∧ b = 0 ∧ c = 0 ∧ e = 0) ∨ P4 a b c e ∨ P4 (-a) (-b) (-c) (-e) := by
  rcases Two.up_tri ph3 root_half (Half.mk a b) (Half.mk c e) with h | h | h
  · exact .inl ⟨congrArg Half.x h.1, congrArg Half.y h.1, congrArg Half.x h.2, congrArg Half.y h.2⟩
  · exact .inr (.inl h)
  · exact .inr (.inr h)
theorem p4_zero : ¬ P4 0 0 0 0 := fun h => Two.up_zero h
theorem p4_not {a b c e : Int} (h1 : P4 a b c e) (h2 : P4 (-a) (-b) (-c) (-e)) : False := Two.up_not h1 h2
/-! ### Signs -/
instance (a b : Int) : Decidable (P2 a b) := by unfold P2 One.Up PI; exact inferInstance
instance (h : Half) : Decidable (PH h) := by unfold PH; exact inferInstance
instance (a b c e : Int) : Decidable (P4 a b c e) := by unfold P4 Two.Up; exact inferInstance
def sg2 (a b : Int) : Int := if P2 a b then 1 else if P2 (-a) (-b) then -1 else 0
def sg4 (a b c e : Int) : Int := if P4 a b c e then 1 else if P4 (-a) (-b) (-c) (-e) then -1 else 0

theorem is1 (n : Int) : One.Is n (sg1 n) := by
  unfold sg1 One.Is
  split
  · exact .inl ⟨rfl, by assumption⟩
  · split
    · exact .inr (.inl ⟨rfl, by show 0 < -n; omega⟩)
    · exact .inr (.inr ⟨rfl, by omega⟩)
theorem is2 (a b : Int) : One.IsUp 2 a b (sg2 a b) := by
  unfold sg2
  rcases One.up_tri (by decide : (0:Int) < 2) root_int a b with e | e | e
  · obtain ⟨rfl, rfl⟩ := e; exact .inr (.inr ⟨by decide, rfl, rfl⟩)
  · rw [if_pos (show P2 a b from e)]; exact .inl ⟨rfl, e⟩
  · rw [if_neg (fun f : P2 a b => One.up_not f e), if_pos (show P2 (-a) (-b) from e)]; exact .inr (.inl ⟨rfl, e⟩)
theorem is2h (h : Half) : Two.Is h (sg2 h.x h.y) := by
  rcases is2 h.x h.y with ⟨e, f⟩ | ⟨e, f⟩ | ⟨e, f, g⟩
  · exact .inl ⟨e, f⟩
  · exact .inr (.inl ⟨e, f⟩)
  · exact .inr (.inr ⟨e, Half.ext f g⟩)
theorem is4 (a b c e : Int) : (sg4 a b c e = 1 ∧ P4 a b c e) ∨ (sg4 a b c e = -1 ∧ P4 (-a) (-b) (-c) (-e)) ∨ (sg4 a b c e = 0 ∧ a = 0 ∧ b = 0 ∧ c = 0 ∧ e = 0) := by
  unfold sg4
  rcases p4_tri a b c e with h | h | h
  · obtain ⟨rfl, rfl, rfl, rfl⟩ := h; exact .inr (.inr ⟨by decide, rfl, rfl, rfl, rfl⟩)
  · rw [if_pos h]; exact .inl ⟨rfl, h⟩
  · rw [if_neg (fun f => p4_not f h), if_pos h]; exact .inr (.inl ⟨rfl, h⟩)
/-- How impl finds the sign of a + b root 2. -/
theorem sg2_joined (a b : Int) : sg2 a b = joined (sg1 a) (sg1 b) (sg1 (a * a - 2 * b * b)) :=
  One.up_one (is2 a b) (One.is_joined (by decide : (0:Int) < 2) root_int (is1 a) (is1 b) (is1 _))
/-- How both find the sign of all four. -/
theorem sg4_joined (a b c e : Int) : sg4 a b c e = joined (sg2 a b) (sg2 c e) (sg2 (a * a + 2 * b * b - 3 * (c * c + 2 * e * e)) (2 * a * b - 3 * (2 * c * e))) := by
  have h1 := Two.is_joined ph3 root_half (is2h ⟨a, b⟩) (is2h ⟨c, e⟩) (is2h _)
  refine Two.up_one (d := three) (p := ⟨a, b⟩) (q := ⟨c, e⟩) ?_ (Eq.mp ?_ h1)
  · rcases is4 a b c e with ⟨h, i⟩ | ⟨h, i⟩ | ⟨h, rfl, rfl, rfl, rfl⟩
    · exact .inl ⟨h, i⟩
    · exact .inr (.inl ⟨h, i⟩)
    · exact .inr (.inr ⟨h, rfl, rfl⟩)
  · congr 2
    simp only [Half.subx, Half.suby, Half.mulx, Half.muly, tx, ty]
    congr 1 <;> grind
theorem sg4_range (a b c e : Int) : sg4 a b c e = 1 ∨ sg4 a b c e = -1 ∨ sg4 a b c e = 0 := by
  rcases is4 a b c e with h | h | h
  · exact .inl h.1
  · exact .inr (.inl h.1)
  · exact .inr (.inr h.1)
theorem sg4_pos {a b c e : Int} : sg4 a b c e = 1 ↔ P4 a b c e := by
  unfold sg4; split
  · simp [*]
  · split <;> simp [*]
theorem sg4_neg (a b c e : Int) : sg4 (-a) (-b) (-c) (-e) = -sg4 a b c e := by
  rcases is4 a b c e with ⟨h, i⟩ | ⟨h, i⟩ | ⟨h, i⟩ <;> rcases is4 (-a) (-b) (-c) (-e) with ⟨k, l⟩ | ⟨k, l⟩ | ⟨k, l⟩
  · exact (p4_not i l).elim
  · rw [h, k]
  · obtain ⟨l1, l2, l3, l4⟩ := l; rw [show a = 0 by omega, show b = 0 by omega, show c = 0 by omega, show e = 0 by omega] at i; exact (p4_zero i).elim
  · rw [h, k]; rfl
  · exact (p4_not i l).elim
  · obtain ⟨l1, l2, l3, l4⟩ := l; rw [l1, l2, l3, l4] at i; exact (p4_zero i).elim
  · obtain ⟨rfl, rfl, rfl, rfl⟩ := i; exact (p4_zero l).elim
  · obtain ⟨rfl, rfl, rfl, rfl⟩ := i; exact (p4_zero l).elim
  · rw [h, k]; rfl
theorem sg4_zero {a b c e : Int} : sg4 a b c e = 0 ↔ a = 0 ∧ b = 0 ∧ c = 0 ∧ e = 0 := by
  constructor
  · intro h; rcases is4 a b c e with ⟨k, l⟩ | ⟨k, l⟩ | ⟨k, l⟩
    · omega
    · omega
    · exact l
  · rintro ⟨rfl, rfl, rfl, rfl⟩; decide
theorem sg4_mul (a b c e a' b' c' e' : Int) :
    sg4 (a * a' + 2 * b * b' + 3 * c * c' + 6 * e * e') (a * b' + b * a' + 3 * (c * e' + e * c')) (a * c' + c * a' + 2 * (b * e' + e * b')) (a * e' + e * a' + b * c' + c * b') = sg4 a b c e * sg4 a' b' c' e' := by
  rcases is4 a b c e with ⟨h, i⟩ | ⟨h, i⟩ | ⟨h, rfl, rfl, rfl, rfl⟩
  · rcases is4 a' b' c' e' with ⟨k, l⟩ | ⟨k, l⟩ | ⟨k, rfl, rfl, rfl, rfl⟩
    · rw [h, k, sg4_pos.2 (p4_mul i l)]; rfl
    · rw [h, k]; show _ = -(1 : Int); rw [← sg4_pos.2 (p4_mul i l), ← sg4_neg]; congr 1 <;> grind
    · rw [k]; simp; decide
  · rcases is4 a' b' c' e' with ⟨k, l⟩ | ⟨k, l⟩ | ⟨k, rfl, rfl, rfl, rfl⟩
    · rw [h, k]; show _ = -(1 : Int); rw [← sg4_pos.2 (p4_mul i l), ← sg4_neg]; congr 1 <;> grind
    · rw [h, k]; show _ = (1 : Int); rw [← sg4_pos.2 (p4_mul i l)]; congr 1 <;> grind
    · rw [k]; simp; decide
  · rw [h]; simp; decide
end Go.Proofs.Ytibhlaojinedoaa
/- Contracts of what signs are made of: comparisons, sizes, products of 128 bits, and the sign of a sum. -/
namespace Go.Proofs.Ytibhlaojinedoaa
set_option maxRecDepth 20000
open Go.ChangeShapes Go.WideShapes Go.ChangeAt Go.RowKit
set_option linter.unusedVariables false
set_option linter.unusedSimpArgs false

theorem sg1_neg {n : Int} (h : n < 0) : sg1 n = -1 := by unfold sg1; rw [if_neg (by omega), if_pos h]
theorem sg1_pos {n : Int} (h : 0 < n) : sg1 n = 1 := by unfold sg1; rw [if_pos h]
theorem sg1_nil {n : Int} (h : n = 0) : sg1 n = 0 := by subst h; rfl

/-- From -SurdMax to SurdMax. -/
def rng (n : Int) : Bool := decide (-10000000 ≤ n ∧ n ≤ 10000000)
theorem rng_in {n : Int} (h : rng n = true) : -10000000 ≤ n ∧ n ≤ 10000000 := of_decide_eq_true h
end Go.Proofs.Ytibhlaojinedoaa
/- Contracts of impl's halves and radicals: structs of 64-bit numbers to calculate with. -/
namespace Go.Proofs.Ytibhlaojinedoaa
set_option maxRecDepth 20000
open Go.ChangeShapes Go.WideShapes Go.ChangeAt Go.RowKit
set_option linter.unusedVariables false
set_option linter.unusedSimpArgs false

theorem mul_in {x y : Int} (X Y : Nat) (hx : -(X : Int) ≤ x ∧ x ≤ X) (hy : -(Y : Int) ≤ y ∧ y ≤ Y) : -((X * Y : Nat) : Int) ≤ x * y ∧ x * y ≤ ((X * Y : Nat) : Int) := by
  have h1 : x.natAbs ≤ X := by omega
  have h2 : y.natAbs ≤ Y := by omega
  have h3 : (x * y).natAbs ≤ X * Y := by rw [Int.natAbs_mul]; exact Nat.mul_le_mul h1 h2
  omega

/-- A half, a radical: as values. -/
def hv (a b : Int) : Value := .agg #[.int .i64 a, .int .i64 b]
def sv (a b c e : Int) : Value := .agg #[.int .i64 a, .int .i64 b, .int .i64 c, .int .i64 e]

theorem below_one (w : World) (o : Obj) : Below w.heap.size w (w.alloc o) := (Below.refl _ _).alloc (Nat.le_refl _) _
theorem below_two (w : World) (o p : Obj) : Below w.heap.size w ((w.alloc o).alloc p) := (below_one w o).alloc (by simp) _
theorem below_three (w : World) (o p q : Obj) : Below w.heap.size w (((w.alloc o).alloc p).alloc q) := (below_two w o p).alloc (by simp; omega) _
def okr (a b c d : Int) : Bool := rng a && rng b && rng c && rng d
theorem calm {P : Program} {f : FuncId} {args : Array Value} {w x : World} {v : Value} (hx : ∃ m, x = w.drewN m) (h : Calls P f args x fun e w' => e = .returned v ∧ x = w') :
    Calls P f args x fun e w'' => e = .returned v ∧ ∃ m, w'' = w.drewN m := h.mono fun _ _ ⟨he, hm⟩ => ⟨he, by obtain ⟨m, e⟩ := hx; exact ⟨m, by rw [← hm, e]⟩⟩
theorem calm2 {P : Program} {f : FuncId} {args : Array Value} {w : World} {v : Value} {a n : Nat} (h : Calls P f args (w.drewN (a + n)) fun e w' => e = .returned v ∧ w.drewN (a + n) = w') :
    Calls P f args (w.drewN (a + n)) fun e w'' => e = .returned v ∧ ∃ m, w'' = w.drewN (a + m) := h.mono fun _ _ ⟨he, hm⟩ => ⟨he, n, hm.symm⟩
theorem sg1_in (n : Int) : -1 ≤ sg1 n ∧ sg1 n ≤ 1 := by
  unfold sg1
  split
  · omega
  · split <;> omega
theorem sg2_in (a b : Int) : -1 ≤ sg2 a b ∧ sg2 a b ≤ 1 := by
  unfold sg2
  split
  · omega
  · split <;> omega
theorem sg_pair (h l h' l' x y : Int) (e : x = h * 18446744073709551616 + l) (e' : y = h' * 18446744073709551616 + l') (hl : 0 ≤ l) (hl1 : l < 18446744073709551616) (hl' : 0 ≤ l') (hl1' : l' < 18446744073709551616) :
    (if sg1 (h - h') = 0 then sg1 (l - l') else sg1 (h - h')) = sg1 (x - y) := by
  rcases (show h < h' ∨ h = h' ∨ h' < h by omega) with g | g | g
  · rw [sg1_neg (n := h - h') (by omega), if_neg (by decide), sg1_neg (n := x - y) (by omega)]
  · subst g
    rw [sg1_nil (n := h - h) (by omega), if_pos rfl]
    rw [show x - y = l - l' by omega]
  · rw [sg1_pos (n := h - h') (by omega), if_neg (by decide), sg1_pos (n := x - y) (by omega)]
theorem sizes_sq (a : Int) : ((a.natAbs : Nat) : Int) * (a.natAbs : Nat) = a * a := by
  rcases Int.natAbs_eq a with e | e
  · rw [← e]
  · conv => rhs; rw [e]
    rw [Int.neg_mul_neg]
/-! Rows of two and of four. -/
def f2 (a b : Int) : Nat → Int := fun j => if j = 0 then a else b
def f4 (a b c d : Int) : Nat → Int := fun j => if j = 0 then a else if j = 1 then b else if j = 2 then c else d
theorem hv_vec (a b : Int) : hv a b = .agg (vec 2 (f2 a b)) := rfl
theorem sv_vec (a b c d : Int) : sv a b c d = .agg (vec 4 (f4 a b c d)) := rfl
end Go.Proofs.Ytibhlaojinedoaa
/- Contracts of impl's signs of radicals, and how surds become radicals. -/
namespace Go.Proofs.Ytibhlaojinedoaa
set_option maxRecDepth 20000
open Go.ChangeShapes Go.WideShapes Go.ChangeAt Go.RowKit
set_option linter.unusedVariables false
set_option linter.unusedSimpArgs false

def Gives (F : FuncId) (args : Array Value) (v : Value) : Prop := ∀ w, Calls Try.prog F args w fun e w' => e = .returned v ∧ Below w.heap.size w w'
theorem Gives.same {F : FuncId} {args : Array Value} {v : Value} (h : ∀ w, Calls Try.prog F args w fun e w' => e = .returned v ∧ w = w') : Gives F args v := fun w => (h w).mono fun _ _ ⟨he, hw⟩ => ⟨he, hw ▸ Below.refl _ _⟩
abbrev h2 (a b : Int) : Value := .agg (vec 2 (f2 a b))
theorem rows_fresh (w : World) (o : Obj) (f g : Nat → Int) (T : TypeId) :
    RowAt (((w.alloc o).alloc (.cells (vec 2 f) T)).alloc (.cells (vec 2 g) T)).drew (w.heap.size + 1) 2 T f ∧ RowAt (((w.alloc o).alloc (.cells (vec 2 f) T)).alloc (.cells (vec 2 g) T)).drew (w.heap.size + 1 + 1) 2 T g ∧
      Below w.heap.size w (((w.alloc o).alloc (.cells (vec 2 f) T)).alloc (.cells (vec 2 g) T)).drew := by
  have h1 : RowAt ((w.alloc o).alloc (.cells (vec 2 f) T)) (w.heap.size + 1) 2 T f := RowAt.newAt rfl (by simp)
  have h2 : RowAt (((w.alloc o).alloc (.cells (vec 2 f) T)).alloc (.cells (vec 2 g) T)) (w.heap.size + 1 + 1) 2 T g := RowAt.newAt rfl (by simp)
  exact ⟨(h1.alloc _).drew1, h2.drew1, (below_three _ _ _ _).drew⟩
end Go.Proofs.Ytibhlaojinedoaa
