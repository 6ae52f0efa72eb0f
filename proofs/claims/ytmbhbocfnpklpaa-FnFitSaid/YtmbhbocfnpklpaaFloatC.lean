/-
  The roots' words in both widths, what they stand for; sums of eight terms, rounded term by term and sum by sum.
-/
import Derived.Test.YtmbhbocfnpklpaaFloatB
namespace Go.Proofs.Ytmbhbocfnpklpaa
set_option maxRecDepth 20000
set_option linter.unusedVariables false
set_option linter.unusedSimpArgs false
open Ieee

theorem zero_val {f : Format} {p lo t M : Nat} (H : Std f p lo t M) : Val f t 0 0 := by
  have h0 := read_zeroN H false
  have hw : f.word false 0 = 0 := by unfold Format.word; simp
  rw [hw] at h0
  have ht := H.2.2.2.2.2.1
  exact ⟨false, 0, 0, by rw [h0, ← ht]; simp, by rw [Nat.zero_mul, sgnd_zero, Int.zero_mul]⟩
def wDr : Nat → Nat
  | 0 => 4607182418800017408
  | 1 => 4606875505927962389
  | 2 => 4605975682916830378
  | 3 => 4604544271217802189
  | 4 => 4602678819172646912
  | 5 => 4598334089338226320
  | 6 => 0
  | _ => 13821706126193002128
def vDr : Nat → Int
  | 0 => 1298074214633706907132624082305024
  | 1 => 1253843408354596754066294184083456
  | 2 => 1124165245870324036828141782564864
  | 3 => 917877079650896179172824953389056
  | 4 => 649037107316853453566312041152512
  | 5 => 335966328703700574893469230694400
  | 6 => 0
  | _ => -335966328703700574893469230694400
theorem rootDr : ∀ k, k < 8 → ValD (wDr k) (vDr k)
  | 0, _ => by exact const_val (f := double) false 4503599627370496 58 (-52) (by decide) (by decide +kernel)
  | 1, _ => by exact const_val (f := double) false 8700286382685973 57 (-53) (by decide) (by decide +kernel)
  | 2, _ => by exact const_val (f := double) false 7800463371553962 57 (-53) (by decide) (by decide +kernel)
  | 3, _ => by exact const_val (f := double) false 6369051672525773 57 (-53) (by decide) (by decide +kernel)
  | 4, _ => by exact const_val (f := double) false 4503599627370496 57 (-53) (by decide) (by decide +kernel)
  | 5, _ => by exact const_val (f := double) false 4662469420320400 56 (-54) (by decide) (by decide +kernel)
  | 6, _ => by exact zero_val stdD
  | 7, _ => by exact const_val (f := double) true 4662469420320400 56 (-54) (by decide) (by decide +kernel)
  | k + 8, h => absurd h (by omega)
theorem sizeDr (k : Nat) : -1298074214633706907132624082305024 ≤ vDr k ∧ vDr k ≤ 1298074214633706907132624082305024 := by
  unfold vDr; split <;> decide
def wDi : Nat → Nat
  | 0 => 0
  | 1 => 4598334089338226320
  | 2 => 4602678819172646912
  | 3 => 4604544271217802189
  | 4 => 4605975682916830378
  | 5 => 4606875505927962389
  | 6 => 4607182418800017408
  | _ => 4606875505927962389
def vDi : Nat → Int
  | 0 => 0
  | 1 => 335966328703700574893469230694400
  | 2 => 649037107316853453566312041152512
  | 3 => 917877079650896179172824953389056
  | 4 => 1124165245870324036828141782564864
  | 5 => 1253843408354596754066294184083456
  | 6 => 1298074214633706907132624082305024
  | _ => 1253843408354596754066294184083456
theorem rootDi : ∀ k, k < 8 → ValD (wDi k) (vDi k)
  | 0, _ => by exact zero_val stdD
  | 1, _ => by exact const_val (f := double) false 4662469420320400 56 (-54) (by decide) (by decide +kernel)
  | 2, _ => by exact const_val (f := double) false 4503599627370496 57 (-53) (by decide) (by decide +kernel)
  | 3, _ => by exact const_val (f := double) false 6369051672525773 57 (-53) (by decide) (by decide +kernel)
  | 4, _ => by exact const_val (f := double) false 7800463371553962 57 (-53) (by decide) (by decide +kernel)
  | 5, _ => by exact const_val (f := double) false 8700286382685973 57 (-53) (by decide) (by decide +kernel)
  | 6, _ => by exact const_val (f := double) false 4503599627370496 58 (-52) (by decide) (by decide +kernel)
  | 7, _ => by exact const_val (f := double) false 8700286382685973 57 (-53) (by decide) (by decide +kernel)
  | k + 8, h => absurd h (by omega)
theorem sizeDi (k : Nat) : -1298074214633706907132624082305024 ≤ vDi k ∧ vDi k ≤ 1298074214633706907132624082305024 := by
  unfold vDi; split <;> decide
def wSr : Nat → Nat
  | 0 => 1065353216
  | 1 => 1064781546
  | 2 => 1063105495
  | 3 => 1060439283
  | 4 => 1056964608
  | 5 => 1048871918
  | 6 => 0
  | _ => 3196355566
def vSr : Nat → Int
  | 0 => 1298074214633706907132624082305024
  | 1 => 1253843390742564823273150185734144
  | 2 => 1124165225693546017327840682311680
  | 3 => 917877063942098997734131695091712
  | 4 => 649037107316853453566312041152512
  | 5 => 335966326800465825539018490642432
  | 6 => 0
  | _ => -335966326800465825539018490642432
theorem rootSr : ∀ k, k < 8 → ValS (wSr k) (vSr k)
  | 0, _ => by exact const_val (f := single) false 8388608 87 (-23) (by decide) (by decide +kernel)
  | 1, _ => by exact const_val (f := single) false 16205546 86 (-24) (by decide) (by decide +kernel)
  | 2, _ => by exact const_val (f := single) false 14529495 86 (-24) (by decide) (by decide +kernel)
  | 3, _ => by exact const_val (f := single) false 11863283 86 (-24) (by decide) (by decide +kernel)
  | 4, _ => by exact const_val (f := single) false 8388608 86 (-24) (by decide) (by decide +kernel)
  | 5, _ => by exact const_val (f := single) false 8684526 85 (-25) (by decide) (by decide +kernel)
  | 6, _ => by exact zero_val stdS
  | 7, _ => by exact const_val (f := single) true 8684526 85 (-25) (by decide) (by decide +kernel)
  | k + 8, h => absurd h (by omega)
theorem sizeSr (k : Nat) : -1298074214633706907132624082305024 ≤ vSr k ∧ vSr k ≤ 1298074214633706907132624082305024 := by
  unfold vSr; split <;> decide
def wSi : Nat → Nat
  | 0 => 0
  | 1 => 1048871918
  | 2 => 1056964608
  | 3 => 1060439283
  | 4 => 1063105495
  | 5 => 1064781546
  | 6 => 1065353216
  | _ => 1064781546
def vSi : Nat → Int
  | 0 => 0
  | 1 => 335966326800465825539018490642432
  | 2 => 649037107316853453566312041152512
  | 3 => 917877063942098997734131695091712
  | 4 => 1124165225693546017327840682311680
  | 5 => 1253843390742564823273150185734144
  | 6 => 1298074214633706907132624082305024
  | _ => 1253843390742564823273150185734144
theorem rootSi : ∀ k, k < 8 → ValS (wSi k) (vSi k)
  | 0, _ => by exact zero_val stdS
  | 1, _ => by exact const_val (f := single) false 8684526 85 (-25) (by decide) (by decide +kernel)
  | 2, _ => by exact const_val (f := single) false 8388608 86 (-24) (by decide) (by decide +kernel)
  | 3, _ => by exact const_val (f := single) false 11863283 86 (-24) (by decide) (by decide +kernel)
  | 4, _ => by exact const_val (f := single) false 14529495 86 (-24) (by decide) (by decide +kernel)
  | 5, _ => by exact const_val (f := single) false 16205546 86 (-24) (by decide) (by decide +kernel)
  | 6, _ => by exact const_val (f := single) false 8388608 87 (-23) (by decide) (by decide +kernel)
  | 7, _ => by exact const_val (f := single) false 16205546 86 (-24) (by decide) (by decide +kernel)
  | k + 8, h => absurd h (by omega)
theorem sizeSi (k : Nat) : -1298074214633706907132624082305024 ≤ vSi k ∧ vSi k ≤ 1298074214633706907132624082305024 := by
  unfold vSi; split <;> decide
/-! ### Terms and sums -/
theorem small_of {d B P : Int} (hP : 1 ≤ P) (hB : 0 ≤ B) (h1 : d * P ≤ B) (h2 : -B ≤ d * P) : d ≤ B ∧ -B ≤ d := by
  constructor
  · rcases Int.lt_or_le B d with h | h
    · have : d * 1 ≤ d * P := Int.mul_le_mul_of_nonneg_left hP (by omega)
      omega
    · exact h
  · rcases Int.lt_or_le d (-B) with h | h
    · have : -d * 1 ≤ -d * P := Int.mul_le_mul_of_nonneg_left hP (by omega)
      rw [Int.neg_mul, Int.neg_mul] at this
      omega
    · exact h
theorem rnd_bound (p : Nat) (v B : Int) (h1 : -B ≤ v) (h2 : v ≤ B) : -(2 * B) ≤ rnd p v ∧ rnd p v ≤ 2 * B := by
  obtain ⟨e1, e2⟩ := rnd_err p v B h1 h2
  have h3 : (1 : Int) ≤ 2 ^ (p + 1) := by have := two_powI (p + 1); omega
  obtain ⟨d1, d2⟩ := small_of h3 (by omega) e1 e2
  omega
/-- A term's word. -/
def tmW (k : FloatKind) (c : Int) (r : Nat) : Nat := (k.format.mul (floatOfInt k c) r).getD 0
def tmV (p : Nat) (c r : Int) : Int := rnd p (c * r)
theorem tm_size {p : Nat} {c r : Int} (hc : -1000000 ≤ c ∧ c ≤ 1000000) (hr : -1298074214633706907132624082305024 ≤ r ∧ r ≤ 1298074214633706907132624082305024) :
    (-1298074214633706907132624082305024000000 ≤ c * r ∧ c * r ≤ 1298074214633706907132624082305024000000) ∧ -2596148429267413814265248164610048000000 ≤ tmV p c r ∧ tmV p c r ≤ 2596148429267413814265248164610048000000 := by
  have h : -1298074214633706907132624082305024000000 ≤ c * r ∧ c * r ≤ 1298074214633706907132624082305024000000 := by
    rcases Int.le_total 0 c with h | h
    · have a := Int.mul_le_mul_of_nonneg_left hr.2 h
      have b := Int.mul_le_mul_of_nonneg_left hr.1 h
      omega
    · have a := Int.mul_le_mul_of_nonpos_left h hr.2
      have b := Int.mul_le_mul_of_nonpos_left h hr.1
      omega
  exact ⟨h, rnd_bound p _ _ h.1 h.2⟩
theorem tm_dbl {c r : Int} {x : Nat} (hc : -1000000 ≤ c ∧ c ≤ 1000000) (hx : ValD x r) (hr : -1298074214633706907132624082305024 ≤ r ∧ r ≤ 1298074214633706907132624082305024) :
    floatBits .mul .f64 (floatOfInt .f64 c) x = some (tmW .f64 c x) ∧ ValD (tmW .f64 c x) (tmV 52 c r) := by
  have hi : Val double tD (floatOfInt .f64 c) (c * 2 ^ 110) := int_val stdD (Nat.lt_of_le_of_lt (show c.natAbs ≤ 1000000 by omega) (by decide)) (Nat.lt_of_le_of_lt (show c.natAbs ≤ 1000000 by omega) (by decide))
  have hb := (tm_size (p := 52) hc hr).1
  obtain ⟨z, h1, h2⟩ := mul_val stdD hi hx (by omega)
  have e : tmW .f64 c x = z := by unfold tmW; rw [show FloatKind.f64.format = double from rfl, h1]; rfl
  rw [e]
  exact ⟨h1, h2⟩
theorem tm_sgl {c r : Int} {x : Nat} (hc : -1000000 ≤ c ∧ c ≤ 1000000) (hx : ValS x r) (hr : -1298074214633706907132624082305024 ≤ r ∧ r ≤ 1298074214633706907132624082305024) :
    floatBits .mul .f32 (floatOfInt .f32 c) x = some (tmW .f32 c x) ∧ ValS (tmW .f32 c x) (tmV 23 c r) := by
  have hi : Val single tS (floatOfInt .f32 c) (c * 2 ^ 110) := int_val stdS (Nat.lt_of_le_of_lt (show c.natAbs ≤ 1000000 by omega) (by decide)) (Nat.lt_of_le_of_lt (show c.natAbs ≤ 1000000 by omega) (by decide))
  have hb := (tm_size (p := 23) hc hr).1
  obtain ⟨z, h1, h2⟩ := mul_val stdS hi hx (by omega)
  have e : tmW .f32 c x = z := by unfold tmW; rw [show FloatKind.f32.format = single from rfl, h1]; rfl
  rw [e]
  exact ⟨h1, h2⟩
def smW (k : FloatKind) (g : Nat → Nat) : Nat → Nat
  | 0 => 0
  | n + 1 => (k.format.add (smW k g n) (g n)).getD 0
def smV (p : Nat) (h : Nat → Int) : Nat → Int
  | 0 => 0
  | n + 1 => rnd p (smV p h n + h n)
/-- A bound of the sum of n terms. -/
def bnd : Nat → Int
  | 0 => 0
  | n + 1 => 2 * (bnd n + 2596148429267413814265248164610048000000)
theorem bnd_le (n : Nat) (h : n ≤ 8) : 0 ≤ bnd n ∧ bnd n ≤ 2596148429267413814265248164610048000000000 := by
  rcases (show n = 0 ∨ n = 1 ∨ n = 2 ∨ n = 3 ∨ n = 4 ∨ n = 5 ∨ n = 6 ∨ n = 7 ∨ n = 8 by omega) with rfl | rfl | rfl | rfl | rfl | rfl | rfl | rfl | rfl <;> decide
theorem sm_val {k : FloatKind} {p lo t M : Nat} (H : Std k.format p lo t M) {g : Nat → Nat} {h : Nat → Int} (hg : ∀ n, n < 8 → Val k.format t (g n) (h n))
    (hb : ∀ n, n < 8 → -2596148429267413814265248164610048000000 ≤ h n ∧ h n ≤ 2596148429267413814265248164610048000000) :
    ∀ n, n ≤ 8 → Val k.format t (smW k g n) (smV p h n) ∧ -bnd n ≤ smV p h n ∧ smV p h n ≤ bnd n
  | 0, _ => ⟨zero_val H, by show -(0 : Int) ≤ 0; decide, by show (0 : Int) ≤ 0; decide⟩
  | n + 1, hn => by
    obtain ⟨hv, b1, b2⟩ := sm_val H hg hb n (by omega)
    have hgn := hg n (by omega)
    have hbn := hb n (by omega)
    have hl := bnd_le n (by omega)
    obtain ⟨z, h1, h2⟩ := add_val H hv hgn (by omega)
    have e : smW k g (n + 1) = z := by show (k.format.add (smW k g n) (g n)).getD 0 = z; rw [h1]; rfl
    rw [e]
    exact ⟨h2, rnd_bound p _ (bnd n + 2596148429267413814265248164610048000000) (by omega) (by omega)⟩
theorem sm_step {k : FloatKind} {p lo t M : Nat} (H : Std k.format p lo t M) {g : Nat → Nat} {h : Nat → Int} (hg : ∀ n, n < 8 → Val k.format t (g n) (h n))
    (hb : ∀ n, n < 8 → -2596148429267413814265248164610048000000 ≤ h n ∧ h n ≤ 2596148429267413814265248164610048000000) (n : Nat) (hn : n < 8) :
    floatBits .add k (smW k g n) (g n) = some (smW k g (n + 1)) := by
  obtain ⟨hv, b1, b2⟩ := sm_val H hg hb n (by omega)
  have hbn := hb n hn
  have hl := bnd_le n (by omega)
  obtain ⟨z, h1, -⟩ := add_val H hv (hg n hn) (by omega)
  show k.format.add (smW k g n) (g n) = some ((k.format.add (smW k g n) (g n)).getD 0)
  rw [h1]; rfl
theorem smV_congr {p : Nat} {h h' : Nat → Int} : ∀ n, (∀ j, j < n → h j = h' j) → smV p h n = smV p h' n
  | 0, _ => rfl
  | n + 1, e => by
    show rnd p (smV p h n + h n) = rnd p (smV p h' n + h' n)
    rw [smV_congr n (fun j hj => e j (by omega)), e n (by omega)]
theorem smV_neg (p : Nat) (h : Nat → Int) : ∀ n, smV p (fun k => -h k) n = -smV p h n
  | 0 => rfl
  | n + 1 => by
    show rnd p (smV p (fun k => -h k) n + -h n) = -rnd p (smV p h n + h n)
    rw [smV_neg p h n, ← Int.neg_add, rnd_neg]
theorem tmV_neg (p : Nat) (c r : Int) : tmV p (-c) r = -tmV p c r := by unfold tmV; rw [Int.neg_mul, rnd_neg]
/-! ### Points -/
def wpr (c : Nat → Int) (n : Nat) : Nat := smW .f64 (fun k => tmW .f64 (c k) (wDr k)) n
def wpi (c : Nat → Int) (n : Nat) : Nat := smW .f64 (fun k => tmW .f64 (c k) (wDi k)) n
def spr (c : Nat → Int) (n : Nat) : Nat := smW .f32 (fun k => tmW .f32 (c k) (wSr k)) n
def spi (c : Nat → Int) (n : Nat) : Nat := smW .f32 (fun k => tmW .f32 (c k) (wSi k)) n
def vwr (c : Nat → Int) (n : Nat) : Int := smV 52 (fun k => tmV 52 (c k) (vDr k)) n
def vwi (c : Nat → Int) (n : Nat) : Int := smV 52 (fun k => tmV 52 (c k) (vDi k)) n
def vsr (c : Nat → Int) (n : Nat) : Int := smV 23 (fun k => tmV 23 (c k) (vSr k)) n
def vsi (c : Nat → Int) (n : Nat) : Int := smV 23 (fun k => tmV 23 (c k) (vSi k)) n
/-- Coefficients that are none too great. -/
def Okc (c : Nat → Int) : Prop := ∀ k, k < 8 → -1000000 ≤ c k ∧ c k ≤ 1000000
theorem wide_val {c : Nat → Int} (hc : Okc c) (n : Nat) (hn : n ≤ 8) : (ValD (wpr c n) (vwr c n) ∧ -bnd n ≤ vwr c n ∧ vwr c n ≤ bnd n) ∧ (ValD (wpi c n) (vwi c n) ∧ -bnd n ≤ vwi c n ∧ vwi c n ≤ bnd n) :=
  ⟨sm_val (k := .f64) stdD (fun j hj => (tm_dbl (hc j hj) (rootDr j hj) (sizeDr j)).2) (fun j hj => (tm_size (hc j hj) (sizeDr j)).2) n hn,
   sm_val (k := .f64) stdD (fun j hj => (tm_dbl (hc j hj) (rootDi j hj) (sizeDi j)).2) (fun j hj => (tm_size (hc j hj) (sizeDi j)).2) n hn⟩
theorem sing_val {c : Nat → Int} (hc : Okc c) (n : Nat) (hn : n ≤ 8) : (ValS (spr c n) (vsr c n) ∧ -bnd n ≤ vsr c n ∧ vsr c n ≤ bnd n) ∧ (ValS (spi c n) (vsi c n) ∧ -bnd n ≤ vsi c n ∧ vsi c n ≤ bnd n) :=
  ⟨sm_val (k := .f32) stdS (fun j hj => (tm_sgl (hc j hj) (rootSr j hj) (sizeSr j)).2) (fun j hj => (tm_size (hc j hj) (sizeSr j)).2) n hn,
   sm_val (k := .f32) stdS (fun j hj => (tm_sgl (hc j hj) (rootSi j hj) (sizeSi j)).2) (fun j hj => (tm_size (hc j hj) (sizeSi j)).2) n hn⟩
theorem wide_step {c : Nat → Int} (hc : Okc c) (n : Nat) (hn : n < 8) : floatBits .add .f64 (wpr c n) (tmW .f64 (c n) (wDr n)) = some (wpr c (n + 1)) ∧ floatBits .add .f64 (wpi c n) (tmW .f64 (c n) (wDi n)) = some (wpi c (n + 1)) :=
  ⟨sm_step (k := .f64) stdD (fun j hj => (tm_dbl (hc j hj) (rootDr j hj) (sizeDr j)).2) (fun j hj => (tm_size (hc j hj) (sizeDr j)).2) n hn,
   sm_step (k := .f64) stdD (fun j hj => (tm_dbl (hc j hj) (rootDi j hj) (sizeDi j)).2) (fun j hj => (tm_size (hc j hj) (sizeDi j)).2) n hn⟩
theorem sing_step {c : Nat → Int} (hc : Okc c) (n : Nat) (hn : n < 8) : floatBits .add .f32 (spr c n) (tmW .f32 (c n) (wSr n)) = some (spr c (n + 1)) ∧ floatBits .add .f32 (spi c n) (tmW .f32 (c n) (wSi n)) = some (spi c (n + 1)) :=
  ⟨sm_step (k := .f32) stdS (fun j hj => (tm_sgl (hc j hj) (rootSr j hj) (sizeSr j)).2) (fun j hj => (tm_size (hc j hj) (sizeSr j)).2) n hn,
   sm_step (k := .f32) stdS (fun j hj => (tm_sgl (hc j hj) (rootSi j hj) (sizeSi j)).2) (fun j hj => (tm_size (hc j hj) (sizeSi j)).2) n hn⟩
theorem neg_points (c : Nat → Int) (n : Nat) : vwr (fun k => -c k) n = -vwr c n ∧ vwi (fun k => -c k) n = -vwi c n ∧ vsr (fun k => -c k) n = -vsr c n ∧ vsi (fun k => -c k) n = -vsi c n := by
  refine ⟨?_, ?_, ?_, ?_⟩
  · unfold vwr; rw [← smV_neg]; exact smV_congr n (fun j _ => tmV_neg _ _ _)
  · unfold vwi; rw [← smV_neg]; exact smV_congr n (fun j _ => tmV_neg _ _ _)
  · unfold vsr; rw [← smV_neg]; exact smV_congr n (fun j _ => tmV_neg _ _ _)
  · unfold vsi; rw [← smV_neg]; exact smV_congr n (fun j _ => tmV_neg _ _ _)
attribute [irreducible] tmW tmV
end Go.Proofs.Ytmbhbocfnpklpaa
