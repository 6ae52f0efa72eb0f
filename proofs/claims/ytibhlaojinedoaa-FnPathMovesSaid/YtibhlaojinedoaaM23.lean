/-
  Contracts of impl's radicals, second part: from surds and back, products, comparisons.
  impl's functions of surds.
  Signs, second part: greatest whole numbers, sizes.
  impl's functions of surds, second part: signs, comparisons, whole numbers.
-/
import Derived.Test.YtibhlaojinedoaaM22
import Derived.Test.YtibhlaojinedoaaM04
/- Contracts of impl's radicals, second part: from surds and back, products, comparisons. -/
namespace Go.Proofs.Ytibhlaojinedoaa
set_option maxRecDepth 20000
open Go.ChangeShapes Go.WideShapes Go.ChangeAt Go.RowKit
set_option linter.unusedVariables false
set_option linter.unusedSimpArgs false

theorem okr_in {a b c d : Int} (h : okr a b c d = true) : (-10000000 ≤ a ∧ a ≤ 10000000) ∧ (-10000000 ≤ b ∧ b ≤ 10000000) ∧ (-10000000 ≤ c ∧ c ≤ 10000000) ∧ (-10000000 ≤ d ∧ d ≤ 10000000) := by
  simp only [okr, Bool.and_eq_true] at h
  exact ⟨rng_in h.1.1.1, rng_in h.1.1.2, rng_in h.1.2, rng_in h.2⟩
/-- What is told: a valid surd and true, or the zero value and false. -/
def tell (a b c d : Int) : Value := if okr a b c d then .tuple #[sv a b c d, .bool true] else .tuple #[sv 0 0 0 0, .bool false]
theorem tell_t {a b c d : Int} (h : okr a b c d = true) : tell a b c d = .tuple #[sv a b c d, .bool true] := by simp [tell, h]
theorem tell_f {a b c d : Int} (h : okr a b c d = false) : tell a b c d = .tuple #[sv 0 0 0 0, .bool false] := by simp [tell, h]
theorem below_four (w : World) (o p q r : Obj) : Below w.heap.size w ((((w.alloc o).alloc p).alloc q).alloc r) := (below_three w o p q).alloc (by simp; omega) _
theorem below_five (w : World) (o p q r s : Obj) : Below w.heap.size w (((((w.alloc o).alloc p).alloc q).alloc r).alloc s) := (below_four w o p q r).alloc (by simp; omega) _
end Go.Proofs.Ytibhlaojinedoaa
/- impl's functions of surds. -/
namespace Go.Proofs.Ytibhlaojinedoaa
set_option maxRecDepth 20000
open Go.ChangeShapes Go.WideShapes Go.ChangeAt Go.RowKit
set_option linter.unusedVariables false
set_option linter.unusedSimpArgs false

theorem zero4 : (#[.int .i64 0, .int .i64 0, .int .i64 0, .int .i64 0] : Array Value) = vec 4 (fun _ => 0) := rfl
/-- A surd as a value, by its four numbers. -/
abbrev p4 (f : Nat → Int) : Value := .agg (vec 4 f)
def okf (f : Nat → Int) : Bool := okr (f 0) (f 1) (f 2) (f 3)
/-- What is told of a surd. -/
def tls (v : Bool) (f : Nat → Int) : Value := if v && okf f then .tuple #[p4 f, .bool true] else .tuple #[p4 nul, .bool false]
theorem tls_no4 (f : Nat → Int) : tls false f = .tuple #[p4 nul, .bool false] := rfl
theorem ans_no4 (f : Nat → Int) : tls false f = .tuple #[p4 nul, .bool false] := rfl
theorem ans_yes4 {f : Nat → Int} (h : okf f = true) : tls true f = .tuple #[p4 f, .bool true] := by simp [tls, h]
theorem ans_bad4 {f : Nat → Int} (h : okf f = false) : tls true f = .tuple #[p4 nul, .bool false] := by simp [tls, h]
theorem tell_tls (f : Nat → Int) : tell (f 0) (f 1) (f 2) (f 3) = tls true f := by
  cases h : okf f
  · rw [ans_bad4 h, tell_f h]; rfl
  · rw [ans_yes4 h, tell_t h]; rfl
theorem okf_in {f : Nat → Int} (h : okf f = true) : (-10000000 ≤ f 0 ∧ f 0 ≤ 10000000) ∧ (-10000000 ≤ f 1 ∧ f 1 ≤ 10000000) ∧ (-10000000 ≤ f 2 ∧ f 2 ≤ 10000000) ∧ (-10000000 ≤ f 3 ∧ f 3 ≤ 10000000) := okr_in h
def box24 (w : World) (a b : Nat → Int) (T O : TypeId) : World := ((w.alloc (.cells (vec 4 a) T)).alloc (.cells (vec 4 b) T)).alloc (.cells (vec 4 nul) O)
theorem box2_facts4 (w : World) (a b : Nat → Int) (T O : TypeId) : RowAt (box24 w a b T O) w.heap.size 4 T a ∧ RowAt (box24 w a b T O) (w.heap.size + 1) 4 T b ∧ RowAt (box24 w a b T O) (w.heap.size + 1 + 1) 4 O nul ∧ Below w.heap.size w (box24 w a b T O) :=
  ⟨((RowAt.newAt rfl rfl).alloc _).alloc _, (RowAt.newAt rfl (by simp)).alloc _, RowAt.newAt rfl (by simp), (((Below.refl _ _).alloc (Nat.le_refl _) _).alloc (by simp) _).alloc (by simp; omega) _⟩
def box14 (w : World) (a : Nat → Int) (T O : TypeId) : World := (w.alloc (.cells (vec 4 a) T)).alloc (.cells (vec 4 nul) O)
theorem box1_facts4 (w : World) (a : Nat → Int) (T O : TypeId) : RowAt (box14 w a T O) w.heap.size 4 T a ∧ RowAt (box14 w a T O) (w.heap.size + 1) 4 O nul ∧ Below w.heap.size w (box14 w a T O) :=
  ⟨(RowAt.newAt rfl rfl).alloc _, RowAt.newAt rfl (by simp), ((Below.refl _ _).alloc (Nat.le_refl _) _).alloc (by simp) _⟩
def box04 (w : World) (a : Nat → Int) (T : TypeId) : World := w.alloc (.cells (vec 4 a) T)
theorem box0_facts4 (w : World) (a : Nat → Int) (T : TypeId) : RowAt (box04 w a T) w.heap.size 4 T a ∧ Below w.heap.size w (box04 w a T) := ⟨RowAt.newAt rfl rfl, (Below.refl _ _).alloc (Nat.le_refl _) _⟩
theorem pair_first4 (w : World) (E : TypeId) : RowAt ((w.alloc (.cells (vec 4 nul) E)).alloc (.cells (vec 4 nul) E)) w.heap.size 4 E nul := (RowAt.newAt rfl rfl : RowAt _ _ 4 E nul).alloc _
theorem pair_second4 (w : World) (a : Nat → Int) (E : TypeId) : RowAt (((w.alloc (.cells (vec 4 nul) E)).alloc (.cells (vec 4 nul) E)).setRow w.heap.size (vec 4 a)) (w.heap.size + 1) 4 E nul :=
  (RowAt.newAt rfl (by simp) : RowAt _ _ 4 E nul).rowOther _ _ (by omega)
def two4 (w : World) (a b : Nat → Int) (E : TypeId) : World := (((w.alloc (.cells (vec 4 nul) E)).alloc (.cells (vec 4 nul) E)).setRow w.heap.size (vec 4 a)).setRow (w.heap.size + 1) (vec 4 b)
theorem two_first4 (w : World) (a b : Nat → Int) (E : TypeId) : RowAt (two4 w a b E) w.heap.size 4 E a := (((RowAt.newAt rfl rfl : RowAt _ _ 4 E nul).alloc _).setRow).rowOther _ _ (by omega)
theorem two_second4 (w : World) (a b : Nat → Int) (E : TypeId) : RowAt (two4 w a b E) (w.heap.size + 1) 4 E b := ((RowAt.newAt rfl (by simp) : RowAt _ _ 4 E nul).rowOther _ _ (by omega)).setRow
theorem two_keep4 {w : World} {g n : Nat} {T : TypeId} {f : Nat → Int} (h : RowAt w g n T f) (a b : Nat → Int) (E : TypeId) : RowAt (two4 w a b E) g n T f :=
  have := h.lt
  (((h.alloc _).alloc _).rowOther _ _ (by omega)).rowOther _ _ (by omega)
theorem two_below4 {w W : World} (h : Below w.heap.size w W) (a b : Nat → Int) (E : TypeId) : Below w.heap.size w (two4 W a b E) :=
  have := h.size
  below_setRow (below_setRow ((h.alloc this _).alloc (by simp; omega) _) this _) (by omega) _
def sole4 (w : World) (a : Nat → Int) (E : TypeId) : World := (w.alloc (.cells (vec 4 nul) E)).setRow w.heap.size (vec 4 a)
theorem sole_first4 (w : World) (a : Nat → Int) (E : TypeId) : RowAt (sole4 w a E) w.heap.size 4 E a := (RowAt.newAt rfl rfl : RowAt _ _ 4 E nul).setRow
theorem sole_keep4 {w : World} {g n : Nat} {T : TypeId} {f : Nat → Int} (h : RowAt w g n T f) (a : Nat → Int) (E : TypeId) : RowAt (sole4 w a E) g n T f :=
  have := h.lt
  (h.alloc _).rowOther _ _ (by omega)
theorem sole_below4 {w W : World} (h : Below w.heap.size w W) (a : Nat → Int) (E : TypeId) : Below w.heap.size w (sole4 W a E) :=
  have := h.size
  below_setRow (h.alloc this _) this _
/-- Four times a product. -/
def stm (a b : Nat → Int) : Nat → Int := f4 (a 0 * b 0 + 2 * a 1 * b 1 + 3 * a 2 * b 2 + 6 * a 3 * b 3) (a 0 * b 1 + a 1 * b 0 + 3 * (a 2 * b 3 + a 3 * b 2)) (a 0 * b 2 + a 2 * b 0 + 2 * (a 1 * b 3 + a 3 * b 1)) (a 0 * b 3 + a 3 * b 0 + a 1 * b 2 + a 2 * b 1)
end Go.Proofs.Ytibhlaojinedoaa
/- Signs, second part: greatest whole numbers, sizes. -/
namespace Go.Proofs.Ytibhlaojinedoaa
set_option linter.unusedVariables false
set_option linter.unusedSimpArgs false

theorem p4_int {n : Int} (h : 0 < n) : P4 n 0 0 0 := by
  have h2 : 0 < n * n := Int.mul_pos h h
  refine .inl ⟨.inl ⟨h, ?_⟩, .inl ⟨?_, ?_⟩⟩
  · show 0 < n * n - 2 * 0 * 0; omega
  · show 0 < (n * n + 2 * 0 * 0) - ((3 * 0 + 2 * 0 * 0) * 0 + 2 * (3 * 0 + 0 * 0) * 0); omega
  · show 0 < ((n * n + 2 * 0 * 0) - ((3 * 0 + 2 * 0 * 0) * 0 + 2 * (3 * 0 + 0 * 0) * 0)) * ((n * n + 2 * 0 * 0) - ((3 * 0 + 2 * 0 * 0) * 0 + 2 * (3 * 0 + 0 * 0) * 0)) - 2 * ((n * 0 + 0 * n) - ((3 * 0 + 2 * 0 * 0) * 0 + (3 * 0 + 0 * 0) * 0)) * ((n * 0 + 0 * n) - ((3 * 0 + 2 * 0 * 0) * 0 + (3 * 0 + 0 * 0) * 0))
    have h3 := Int.mul_pos h2 h2
    simp
    exact h3
theorem p4_one {p q : Half} (h1 : PH p) (h2 : PH (p * p - three * q * q)) : P4 p.x p.y q.x q.y := .inl ⟨h1, h2⟩
theorem p4_lin2 {n b : Int} (h : 0 < n) (hb : 2 * b * b < n * n) : P4 n b 0 0 := by
  have h1 : PH ⟨n, b⟩ := .inl ⟨h, by show 0 < n * n - 2 * b * b; omega⟩
  refine p4_one (p := ⟨n, b⟩) (q := 0) h1 ?_
  have h2 := Two.p_mul h1 h1
  rwa [show (⟨n, b⟩ * ⟨n, b⟩ : Half) = ⟨n, b⟩ * ⟨n, b⟩ - three * 0 * 0 by apply Half.ext <;> simp only [Half.subx, Half.suby, Half.mulx, Half.muly, Half.zx, Half.zy] <;> grind] at h2
theorem ph_int {n : Int} (h : 0 < n) : PH ⟨n, 0⟩ := .inl ⟨h, by show 0 < n * n - 2 * 0 * 0; have := Int.mul_pos h h; omega⟩
theorem p4_lin3 {n c : Int} (h : 0 < n) (hc : 3 * c * c < n * n) : P4 n 0 c 0 := by
  refine p4_one (p := ⟨n, 0⟩) (q := ⟨c, 0⟩) (ph_int h) ?_
  have h2 := ph_int (n := n * n - 3 * c * c) (by omega)
  rwa [show (⟨n * n - 3 * c * c, 0⟩ : Half) = ⟨n, 0⟩ * ⟨n, 0⟩ - three * ⟨c, 0⟩ * ⟨c, 0⟩ by apply Half.ext <;> simp only [Half.subx, Half.suby, Half.mulx, Half.muly, tx, ty] <;> grind] at h2
theorem p4_lin6 {n e : Int} (h : 0 < n) (he : 6 * e * e < n * n) : P4 n 0 0 e := by
  refine p4_one (p := ⟨n, 0⟩) (q := ⟨0, e⟩) (ph_int h) ?_
  have h2 := ph_int (n := n * n - 6 * e * e) (by omega)
  rwa [show (⟨n * n - 6 * e * e, 0⟩ : Half) = ⟨n, 0⟩ * ⟨n, 0⟩ - three * ⟨0, e⟩ * ⟨0, e⟩ by apply Half.ext <;> simp only [Half.subx, Half.suby, Half.mulx, Half.muly, tx, ty] <;> grind] at h2
theorem sq_le {x : Int} (X : Nat) (h : -(X : Int) ≤ x ∧ x ≤ X) : 0 ≤ x * x ∧ x * x ≤ ((X * X : Nat) : Int) := by
  refine ⟨sq_nonneg x, ?_⟩
  have h1 : x.natAbs ≤ X := by omega
  have h3 : x.natAbs * x.natAbs ≤ X * X := Nat.mul_le_mul h1 h1
  have h4 : ((x.natAbs * x.natAbs : Nat) : Int) = x * x := by
    rcases Int.natAbs_eq x with e | e
    · rw [Int.natCast_mul, ← e]
    · conv => rhs; rw [e]
      rw [Int.neg_mul_neg, Int.natCast_mul]
  omega
theorem far {a b c e : Int} (ha : -10000000 ≤ a ∧ a ≤ 10000000) (hb : -10000000 ≤ b ∧ b ≤ 10000000) (hc : -10000000 ≤ c ∧ c ≤ 10000000) (he : -10000000 ≤ e ∧ e ≤ 10000000) : P4 (a + 80000000) b c e := by
  have h1 := sq_le 10000000 hb; have h2 := sq_le 10000000 hc; have h3 := sq_le 10000000 he
  simp only [Nat.reduceMul] at h1 h2 h3
  have k1 : P4 20000000 b 0 0 := p4_lin2 (by decide) (by rw [Int.mul_assoc]; omega)
  have k2 : P4 20000000 0 c 0 := p4_lin3 (by decide) (by rw [Int.mul_assoc]; omega)
  have k3 : P4 25000000 0 0 e := p4_lin6 (by decide) (by rw [Int.mul_assoc]; omega)
  have k4 : P4 (a + 15000000) 0 0 0 := p4_int (by omega)
  have := p4_add (p4_add k1 k2) (p4_add k3 k4)
  rwa [show (20000000 : Int) + 20000000 + (25000000 + (a + 15000000)) = a + 80000000 by omega, show b + 0 + (0 + 0) = b by omega, show 0 + c + (0 + 0) = c by omega, show 0 + 0 + (e + 0) = e by omega] at this
theorem sg4_neg1 {a b c e : Int} : sg4 a b c e = -1 ↔ P4 (-a) (-b) (-c) (-e) := by
  rw [← sg4_pos, sg4_neg]; omega
theorem far_low {a b c e : Int} (ha : -10000000 ≤ a ∧ a ≤ 10000000) (hb : -10000000 ≤ b ∧ b ≤ 10000000) (hc : -10000000 ≤ c ∧ c ≤ 10000000) (he : -10000000 ≤ e ∧ e ≤ 10000000) : 0 ≤ sg4 (a - 4 * -20000000) b c e := by
  have := sg4_pos.2 (far ha hb hc he)
  rw [show a - 4 * -20000000 = a + 80000000 by omega]; omega
theorem far_high {a b c e : Int} (ha : -10000000 ≤ a ∧ a ≤ 10000000) (hb : -10000000 ≤ b ∧ b ≤ 10000000) (hc : -10000000 ≤ c ∧ c ≤ 10000000) (he : -10000000 ≤ e ∧ e ≤ 10000000) : sg4 (a - 4 * 20000000) b c e < 0 := by
  have := far (a := -a) (b := -b) (c := -c) (e := -e) (by omega) (by omega) (by omega) (by omega)
  rw [show -a + 80000000 = -(a - 4 * 20000000) by omega] at this
  have := sg4_neg1.2 this; omega
/-- n is the greatest whole number that is at most the surd. -/
def WhN (a b c e n : Int) : Prop := 0 ≤ sg4 (a - 4 * n) b c e ∧ sg4 (a - 4 * (n + 1)) b c e < 0
theorem wh_less {a b c e n m : Int} (h1 : 0 ≤ sg4 (a - 4 * n) b c e) (h2 : sg4 (a - 4 * (m + 1)) b c e < 0) : n ≤ m := by
  have h3 : P4 (-(a - 4 * (m + 1))) (-b) (-c) (-e) := sg4_neg1.1 (by have := sg4_range (a - 4 * (m + 1)) b c e; omega)
  rcases is4 (a - 4 * n) b c e with ⟨_, k⟩ | ⟨k, _⟩ | ⟨_, k1, rfl, rfl, rfl⟩
  · have h := p4_add h3 k
    rw [show -(a - 4 * (m + 1)) + (a - 4 * n) = 4 * (m + 1 - n) by omega, show -b + b = 0 by omega, show -c + c = 0 by omega, show -e + e = 0 by omega] at h
    by_cases g : 0 < m + 1 - n
    · omega
    · exfalso
      by_cases g2 : m + 1 - n = 0
      · rw [g2] at h; exact p4_zero h
      · have := p4_int (n := -(4 * (m + 1 - n))) (by omega)
        exact p4_not h this
  · omega
  · by_cases g : 0 < m + 1 - n
    · omega
    · exfalso
      rw [show -(a - 4 * (m + 1)) = 4 * (m + 1 - n) by omega] at h3
      by_cases g2 : m + 1 - n = 0
      · rw [g2] at h3; exact p4_zero h3
      · have := p4_int (n := -(4 * (m + 1 - n))) (by omega)
        exact p4_not h3 this
theorem wh_one {a b c e n m : Int} (h1 : WhN a b c e n) (h2 : WhN a b c e m) : n = m := by
  have := wh_less h1.1 h2.2; have := wh_less h2.1 h1.2; omega
theorem wh_from {a b c e : Int} : ∀ (k : Nat) (l : Int), 0 ≤ sg4 (a - 4 * l) b c e → sg4 (a - 4 * (l + k + 1)) b c e < 0 → ∃ n, WhN a b c e n
  | 0, l, h1, h2 => ⟨l, h1, by rwa [show l + ((0 : Nat) : Int) + 1 = l + 1 by omega] at h2⟩
  | k + 1, l, h1, h2 => by
    by_cases h : sg4 (a - 4 * (l + 1)) b c e < 0
    · exact ⟨l, h1, h⟩
    · exact wh_from k (l + 1) (by omega) (by rwa [show l + ((k + 1 : Nat) : Int) + 1 = l + 1 + (k : Int) + 1 by omega] at h2)
theorem wh_some {a b c e : Int} (ha : -10000000 ≤ a ∧ a ≤ 10000000) (hb : -10000000 ≤ b ∧ b ≤ 10000000) (hc : -10000000 ≤ c ∧ c ≤ 10000000) (he : -10000000 ≤ e ∧ e ≤ 10000000) : ∃ n, WhN a b c e n :=
  wh_from 39999999 (-20000000) (far_low ha hb hc he) (far_high ha hb hc he)
end Go.Proofs.Ytibhlaojinedoaa
/- impl's functions of surds, second part: signs, comparisons, whole numbers. -/
namespace Go.Proofs.Ytibhlaojinedoaa
set_option maxRecDepth 20000
open Go.ChangeShapes Go.WideShapes Go.ChangeAt Go.RowKit
set_option linter.unusedVariables false
set_option linter.unusedSimpArgs false

theorem below_step {w W : World} (h : Below w.heap.size w W) (o : Obj) : Below w.heap.size w (W.alloc o) := h.alloc h.size o
/-- The sign of a surd; of the difference of two. -/
def sgf (a : Nat → Int) : Int := sg4 (a 0) (a 1) (a 2) (a 3)
/-- One point and a surd's variable. -/
def boxP (w : World) (a : Nat → Int) (T O : TypeId) : World := (w.alloc (.cells (vec 8 a) T)).alloc (.cells (vec 4 nul) O)
theorem boxP_facts (w : World) (a : Nat → Int) (T O : TypeId) : RowAt (boxP w a T O) w.heap.size 8 T a ∧ RowAt (boxP w a T O) (w.heap.size + 1) 4 O nul ∧ Below w.heap.size w (boxP w a T O) :=
  ⟨(RowAt.newAt rfl rfl).alloc _, RowAt.newAt rfl (by simp), ((Below.refl _ _).alloc (Nat.le_refl _) _).alloc (by simp) _⟩
/-- Four times the real part, the imaginary part. -/
def rea (a : Nat → Int) : Nat → Int := f4 (4 * a 0 + 2 * a 4) (a 1 + 2 * a 3 - a 5 + a 7) (2 * a 2) (a 1 + a 5 - a 7)
def ima (a : Nat → Int) : Nat → Int := f4 (2 * a 2 + 4 * a 6) (0 - a 1 + 2 * a 3 + a 5 + a 7) (2 * a 4) (a 1 + a 5 + a 7)
theorem ima_rea (a : Nat → Int) : ima a = rea (trn a 18) := by
  unfold ima rea
  congr 1 <;> simp [trn, red, tpow] <;> omega
end Go.Proofs.Ytibhlaojinedoaa
