/-
  How far the sums in either width are from the exact ones; what floatOf calculates is near to them.
-/
import Derived.Test.YtmbhbocfnpklpaaFloatC
namespace Go.Proofs.Ytmbhbocfnpklpaa
set_option maxRecDepth 20000
set_option linter.unusedVariables false
set_option linter.unusedSimpArgs false
open Ieee

/-! ### Errors -/
theorem rnd52 (v e : Int) (h : -(9007199254740992 * e) ≤ v ∧ v ≤ 9007199254740992 * e) : v - e ≤ rnd 52 v ∧ rnd 52 v ≤ v + e := by
  obtain ⟨e1, e2⟩ := rnd_err 52 v (9007199254740992 * e) h.1 h.2
  rw [show (2 : Int) ^ (52 + 1) = 9007199254740992 by decide] at e1 e2
  omega
theorem rnd23 (v e : Int) (h : -(16777216 * e) ≤ v ∧ v ≤ 16777216 * e) : v - e ≤ rnd 23 v ∧ rnd 23 v ≤ v + e := by
  obtain ⟨e1, e2⟩ := rnd_err 23 v (16777216 * e) h.1 h.2
  rw [show (2 : Int) ^ (23 + 1) = 16777216 by decide] at e1 e2
  omega
/-- The exact sum. -/
def sx (x : Nat → Int) : Nat → Int
  | 0 => 0
  | n + 1 => sx x n + x n
theorem sum_err52 {h x : Nat → Int} (hx : ∀ n, n < 8 → -1298074214633706907132624082305024000 ≤ x n ∧ x n ≤ 1298074214633706907132624082305024000) (hh : ∀ n, n < 8 → -147573952589676412928 ≤ h n - x n ∧ h n - x n ≤ 147573952589676412928) :
    ∀ n : Nat, n ≤ 8 → (-(1298074214633706907132624082305024000 * (n : Int)) ≤ sx x n ∧ sx x n ≤ 1298074214633706907132624082305024000 * (n : Int)) ∧ -(1328165573307087716352 * (n : Int)) ≤ smV 52 h n - sx x n ∧ smV 52 h n - sx x n ≤ 1328165573307087716352 * (n : Int)
  | 0, _ => by
    show (-(1298074214633706907132624082305024000 * ((0 : Nat) : Int)) ≤ (0 : Int) ∧ (0 : Int) ≤ 1298074214633706907132624082305024000 * ((0 : Nat) : Int)) ∧ -(1328165573307087716352 * ((0 : Nat) : Int)) ≤ (0 : Int) - 0 ∧ (0 : Int) - 0 ≤ 1328165573307087716352 * ((0 : Nat) : Int)
    decide
  | n + 1, hn => by
    obtain ⟨i1, i2⟩ := sum_err52 hx hh n (by omega)
    have a1 := hx n (by omega)
    have a2 := hh n (by omega)
    have e1 : sx x (n + 1) = sx x n + x n := rfl
    have e2 : smV 52 h (n + 1) = rnd 52 (smV 52 h n + h n) := rfl
    have e3 := rnd52 (smV 52 h n + h n) 1180591620717411303424 (by omega)
    rw [e1, e2]
    generalize rnd 52 (smV 52 h n + h n) = r at *
    omega
theorem sum_err23 {h x : Nat → Int} (hx : ∀ n, n < 8 → -1298074214633706907132624082305024000 ≤ x n ∧ x n ≤ 1298074214633706907132624082305024000) (hh : ∀ n, n < 8 → -118842243771396506390315925504 ≤ h n - x n ∧ h n - x n ≤ 118842243771396506390315925504) :
    ∀ n : Nat, n ≤ 8 → (-(1298074214633706907132624082305024000 * (n : Int)) ≤ sx x n ∧ sx x n ≤ 1298074214633706907132624082305024000 * (n : Int)) ∧ -(752667543885511207138667528192 * (n : Int)) ≤ smV 23 h n - sx x n ∧ smV 23 h n - sx x n ≤ 752667543885511207138667528192 * (n : Int)
  | 0, _ => by
    show (-(1298074214633706907132624082305024000 * ((0 : Nat) : Int)) ≤ (0 : Int) ∧ (0 : Int) ≤ 1298074214633706907132624082305024000 * ((0 : Nat) : Int)) ∧ -(752667543885511207138667528192 * ((0 : Nat) : Int)) ≤ (0 : Int) - 0 ∧ (0 : Int) - 0 ≤ 752667543885511207138667528192 * ((0 : Nat) : Int)
    decide
  | n + 1, hn => by
    obtain ⟨i1, i2⟩ := sum_err23 hx hh n (by omega)
    have a1 := hx n (by omega)
    have a2 := hh n (by omega)
    have e1 : sx x (n + 1) = sx x n + x n := rfl
    have e2 : smV 23 h (n + 1) = rnd 23 (smV 23 h n + h n) := rfl
    have e3 := rnd23 (smV 23 h n + h n) 633825300114114700748351602688 (by omega)
    rw [e1, e2]
    generalize rnd 23 (smV 23 h n + h n) = r at *
    omega
theorem tm_lin {c r : Int} (R : Int) (hc : -1000 ≤ c ∧ c ≤ 1000) (hr : -R ≤ r ∧ r ≤ R) : -(1000 * R) ≤ c * r ∧ c * r ≤ 1000 * R := by
  have hR : 0 ≤ R := by omega
  rcases Int.le_total 0 c with h | h
  · have a := Int.mul_le_mul_of_nonneg_left hr.2 h
    have b := Int.mul_le_mul_of_nonneg_left hr.1 h
    have k := Int.mul_le_mul_of_nonneg_right hc.2 hR
    rw [Int.mul_neg] at b
    omega
  · have a := Int.mul_le_mul_of_nonpos_left h hr.2
    have b := Int.mul_le_mul_of_nonpos_left h hr.1
    have k := Int.mul_le_mul_of_nonneg_right hc.1 hR
    rw [Int.mul_neg] at b
    omega
theorem tm52 {c r : Int} (hc : -1000 ≤ c ∧ c ≤ 1000) (hr : -1298074214633706907132624082305024 ≤ r ∧ r ≤ 1298074214633706907132624082305024) :
    (-1298074214633706907132624082305024000 ≤ c * r ∧ c * r ≤ 1298074214633706907132624082305024000) ∧ -147573952589676412928 ≤ tmV 52 c r - c * r ∧ tmV 52 c r - c * r ≤ 147573952589676412928 := by
  have h := tm_lin 1298074214633706907132624082305024 hc hr
  have e := rnd52 (c * r) 147573952589676412928 (by omega)
  unfold tmV
  omega
theorem tm23 {c r q : Int} (hc : -1000 ≤ c ∧ c ≤ 1000) (hr : -1298074214633706907132624082305024 ≤ r ∧ r ≤ 1298074214633706907132624082305024) (hq : -1298074214633706907132624082305024 ≤ q ∧ q ≤ 1298074214633706907132624082305024) (hd : -21000000000000000000000000 ≤ q - r ∧ q - r ≤ 21000000000000000000000000) :
    -118842243771396506390315925504 ≤ tmV 23 c q - c * r ∧ tmV 23 c q - c * r ≤ 118842243771396506390315925504 := by
  have h := tm_lin 1298074214633706907132624082305024 hc hq
  have k := tm_lin 21000000000000000000000000 hc hd
  rw [Int.mul_sub] at k
  have e := rnd23 (c * q) 79228162514264337593543950336 (by omega)
  unfold tmV
  omega
theorem closer (k : Nat) : -21000000000000000000000000 ≤ vSr k - vDr k ∧ vSr k - vDr k ≤ 21000000000000000000000000 := by
  unfold vSr vDr; split <;> decide
/-- The exact sum with the wide roots. -/
def xr (c : Nat → Int) : Int := sx (fun k => c k * vDr k) 8
theorem wide_errr {c : Nat → Int} (hc : ∀ k, k < 8 → -1000 ≤ c k ∧ c k ≤ 1000) : (-10384593717069655257060992658440192000 ≤ xr c ∧ xr c ≤ 10384593717069655257060992658440192000) ∧ -10625324586456701730816 ≤ vwr c 8 - xr c ∧ vwr c 8 - xr c ≤ 10625324586456701730816 := by
  have h := sum_err52 (h := fun k => tmV 52 (c k) (vDr k)) (x := fun k => c k * vDr k) (fun n hn => (tm52 (hc n hn) (sizeDr n)).1) (fun n hn => (tm52 (hc n hn) (sizeDr n)).2) 8 (Nat.le_refl _)
  unfold xr vwr
  omega
theorem sing_errr {c : Nat → Int} (hc : ∀ k, k < 8 → -1000 ≤ c k ∧ c k ≤ 1000) : -6021340351084089657109340225536 ≤ vsr c 8 - xr c ∧ vsr c 8 - xr c ≤ 6021340351084089657109340225536 := by
  have h := sum_err23 (h := fun k => tmV 23 (c k) (vSr k)) (x := fun k => c k * vDr k) (fun n hn => (tm52 (hc n hn) (sizeDr n)).1) (fun n hn => tm23 (hc n hn) (sizeDr n) (sizeSr n) (closer n)) 8 (Nat.le_refl _)
  unfold xr vsr
  omega
theorem closei (k : Nat) : -21000000000000000000000000 ≤ vSi k - vDi k ∧ vSi k - vDi k ≤ 21000000000000000000000000 := by
  unfold vSi vDi; split <;> decide
/-- The exact sum with the wide roots. -/
def xi (c : Nat → Int) : Int := sx (fun k => c k * vDi k) 8
theorem wide_erri {c : Nat → Int} (hc : ∀ k, k < 8 → -1000 ≤ c k ∧ c k ≤ 1000) : (-10384593717069655257060992658440192000 ≤ xi c ∧ xi c ≤ 10384593717069655257060992658440192000) ∧ -10625324586456701730816 ≤ vwi c 8 - xi c ∧ vwi c 8 - xi c ≤ 10625324586456701730816 := by
  have h := sum_err52 (h := fun k => tmV 52 (c k) (vDi k)) (x := fun k => c k * vDi k) (fun n hn => (tm52 (hc n hn) (sizeDi n)).1) (fun n hn => (tm52 (hc n hn) (sizeDi n)).2) 8 (Nat.le_refl _)
  unfold xi vwi
  omega
theorem sing_erri {c : Nat → Int} (hc : ∀ k, k < 8 → -1000 ≤ c k ∧ c k ≤ 1000) : -6021340351084089657109340225536 ≤ vsi c 8 - xi c ∧ vsi c 8 - xi c ≤ 6021340351084089657109340225536 := by
  have h := sum_err23 (h := fun k => tmV 23 (c k) (vSi k)) (x := fun k => c k * vDi k) (fun n hn => (tm52 (hc n hn) (sizeDi n)).1) (fun n hn => tm23 (hc n hn) (sizeDi n) (sizeSi n) (closei n)) 8 (Nat.le_refl _)
  unfold xi vsi
  omega
theorem hundredth_val : ValD 4576918229304087675 12980742146337069341542218465280 := by
  exact const_val (f := double) false 5764607523034235 51 (-59) (by decide) (by decide +kernel)
theorem nano_val : ValD 4472406533629990549 1298074214633706987978752 := by
  exact const_val (f := double) false 4835703278458517 28 (-82) (by decide) (by decide +kernel)
theorem roottwo_val : ValD 4609047870845172685 1835754159301792358345649906778112 := by
  exact const_val (f := double) false 6369051672525773 58 (-52) (by decide) (by decide +kernel)
theorem rootthree_val : ValD 4610479282544200874 2248330491740648073656283565129728 := by
  exact const_val (f := double) false 7800463371553962 58 (-52) (by decide) (by decide +kernel)
theorem rootsix_val : ValD 4612698179346440494 3179619474116594369689150677843968 := by
  exact const_val (f := double) false 5515760546423086 59 (-51) (by decide) (by decide +kernel)
theorem rndN_dvd {p k V : Nat} (h : 2 ^ k ∣ V) : 2 ^ k ∣ rndN p V := by
  rcases Nat.eq_zero_or_pos V with rfl | hV
  · rw [rndN_zero]; exact Nat.dvd_zero _
  · unfold rndN
    generalize V.log2 - p = d
    by_cases hd : k ≤ d
    · exact Nat.dvd_mul_left_of_dvd (Nat.pow_dvd_pow 2 hd) _
    · obtain ⟨W, rfl⟩ := h
      have e : 2 ^ k * W = W * 2 ^ (k - d) * 2 ^ d := by rw [Nat.mul_comm, Nat.mul_assoc, ← Nat.pow_add, show k - d + d = k by omega]
      rw [e, cutN_scale0, Nat.mul_assoc, ← Nat.pow_add, show k - d + d = k by omega]
      exact Nat.dvd_mul_left _ _
theorem rnd_four {v : Int} (h : (4 : Int) ∣ v) : (4 : Int) ∣ rnd 52 v := by
  have h1 : 2 ^ 2 ∣ v.natAbs := by have := Int.natAbs_dvd_natAbs.2 h; exact this
  have h2 := rndN_dvd (p := 52) h1
  unfold rnd
  generalize rndN 52 v.natAbs = n at *
  have h3 : (4 : Int) ∣ (n : Int) := Int.ofNat_dvd.2 h2
  cases decide (v < 0)
  · exact h3
  · exact (Int.dvd_neg).2 h3
/-- What floatOf calculates with. -/
def estR (a b c d : Int) : Int := a * 1298074214633706907132624082305024 + b * 1835754159301792358345649906778112 + c * 2248330491740648073656283565129728 + d * 3179619474116594369689150677843968
theorem floatOf_near (a b c d : Int) (ha : -8000 ≤ a ∧ a ≤ 8000) (hb : -8000 ≤ b ∧ b ≤ 8000) (hc : -8000 ≤ c ∧ c ≤ 8000) (hd : -8000 ≤ d ∧ d ≤ 8000) :
    ∃ x1 x2 x3 y1 y2 y3 z r, double.mul (floatOfInt .f64 b) 4609047870845172685 = some x1 ∧ double.add (floatOfInt .f64 a) x1 = some y1 ∧ double.mul (floatOfInt .f64 c) 4610479282544200874 = some x2 ∧ double.add y1 x2 = some y2 ∧
      double.mul (floatOfInt .f64 d) 4612698179346440494 = some x3 ∧ double.add y2 x3 = some y3 ∧ double.div y3 4616189618054758400 = some z ∧ ValD z r ∧
      4 * r ≤ estR a b c d + 94447329657392904273920 ∧ estR a b c d ≤ 4 * r + 94447329657392904273920 := by
  have iv : ∀ n : Int, -8000 ≤ n ∧ n ≤ 8000 → Val double tD (floatOfInt .f64 n) (n * 2 ^ 110) := fun n hn => int_val stdD (Nat.lt_of_le_of_lt (show n.natAbs ≤ 8000 by omega) (by decide)) (Nat.lt_of_le_of_lt (show n.natAbs ≤ 8000 by omega) (by decide))
  have h2 : (2 : Int) ^ 110 = 1298074214633706907132624082305024 := by decide
  obtain ⟨x1, m1, n1⟩ := mul_val stdD (iv b hb) roottwo_val (by omega)
  obtain ⟨x2, m2, n2⟩ := mul_val stdD (iv c hc) rootthree_val (by omega)
  obtain ⟨x3, m3, n3⟩ := mul_val stdD (iv d hd) rootsix_val (by omega)
  have e1 := rnd52 (b * 1835754159301792358345649906778112) 9444732965739290427392 (by omega)
  have e2 := rnd52 (c * 2248330491740648073656283565129728) 9444732965739290427392 (by omega)
  have e3 := rnd52 (d * 3179619474116594369689150677843968) 9444732965739290427392 (by omega)
  have f1 := rnd_four (v := b * 1835754159301792358345649906778112) (by omega)
  have f2 := rnd_four (v := c * 2248330491740648073656283565129728) (by omega)
  have f3 := rnd_four (v := d * 3179619474116594369689150677843968) (by omega)
  have na := iv a ha
  rw [h2] at na
  clear iv h2
  generalize rnd 52 (b * 1835754159301792358345649906778112) = v1 at *
  generalize rnd 52 (c * 2248330491740648073656283565129728) = v2 at *
  generalize rnd 52 (d * 3179619474116594369689150677843968) = v3 at *
  obtain ⟨y1, a1, k1⟩ := add_val stdD na n1 (by omega)
  have g1 := rnd52 (a * 1298074214633706907132624082305024 + v1) 9444732965739290427392 (by omega)
  have d1 := rnd_four (v := a * 1298074214633706907132624082305024 + v1) (by omega)
  generalize rnd 52 (a * 1298074214633706907132624082305024 + v1) = w1 at *
  obtain ⟨y2, a2, k2⟩ := add_val stdD k1 n2 (by omega)
  have g2 := rnd52 (w1 + v2) 9444732965739290427392 (by omega)
  have d2 := rnd_four (v := w1 + v2) (by omega)
  generalize rnd 52 (w1 + v2) = w2 at *
  obtain ⟨y3, a3, k3⟩ := add_val stdD k2 n3 (by omega)
  have g3 := rnd52 (w2 + v3) 9444732965739290427392 (by omega)
  have d3 := rnd_four (v := w2 + v3) (by omega)
  generalize rnd 52 (w2 + v3) = w3 at *
  obtain ⟨q, rfl⟩ := d3
  obtain ⟨z, hz, nz⟩ := quarter_val stdD k3 (y := 4616189618054758400) (by decide +kernel) (by omega)
  have g4 := rnd52 q 9444732965739290427392 (by omega)
  generalize rnd 52 q = r at *
  exact ⟨x1, x2, x3, y1, y2, y3, z, r, m1, a1, m2, a2, m3, a3, hz, nz, by unfold estR; omega, by unfold estR; omega⟩
theorem est_xr {a : Nat → Int} (hc : ∀ k, k < 8 → -1000 ≤ a k ∧ a k ≤ 1000) : -1180591620717411303424 ≤ estR (4 * a 0 + 2 * a 4) (a 1 + 2 * a 3 - a 5 + a 7) (2 * a 2) (a 1 + a 5 - a 7) - 4 * xr a ∧ estR (4 * a 0 + 2 * a 4) (a 1 + 2 * a 3 - a 5 + a 7) (2 * a 2) (a 1 + a 5 - a 7) - 4 * xr a ≤ 1180591620717411303424 := by
  have h0 := hc 0 (by omega); have h1 := hc 1 (by omega); have h2 := hc 2 (by omega); have h3 := hc 3 (by omega); have h4 := hc 4 (by omega); have h5 := hc 5 (by omega); have h6 := hc 6 (by omega); have h7 := hc 7 (by omega)
  clear hc
  have e : xr a = 0 + a 0 * vDr 0 + a 1 * vDr 1 + a 2 * vDr 2 + a 3 * vDr 3 + a 4 * vDr 4 + a 5 * vDr 5 + a 6 * vDr 6 + a 7 * vDr 7 := rfl
  rw [e, show vDr 0 = 1298074214633706907132624082305024 from rfl, show vDr 1 = 1253843408354596754066294184083456 from rfl, show vDr 2 = 1124165245870324036828141782564864 from rfl, show vDr 3 = 917877079650896179172824953389056 from rfl, show vDr 4 = 649037107316853453566312041152512 from rfl, show vDr 5 = 335966328703700574893469230694400 from rfl, show vDr 6 = 0 from rfl, show vDr 7 = -335966328703700574893469230694400 from rfl]
  unfold estR
  generalize a 0 = c0 at *
  generalize a 1 = c1 at *
  generalize a 2 = c2 at *
  generalize a 3 = c3 at *
  generalize a 4 = c4 at *
  generalize a 5 = c5 at *
  generalize a 6 = c6 at *
  generalize a 7 = c7 at *
  omega
theorem est_xi {a : Nat → Int} (hc : ∀ k, k < 8 → -1000 ≤ a k ∧ a k ≤ 1000) : -1180591620717411303424 ≤ estR (2 * a 2 + 4 * a 6) (0 - a 1 + 2 * a 3 + a 5 + a 7) (2 * a 4) (a 1 + a 5 + a 7) - 4 * xi a ∧ estR (2 * a 2 + 4 * a 6) (0 - a 1 + 2 * a 3 + a 5 + a 7) (2 * a 4) (a 1 + a 5 + a 7) - 4 * xi a ≤ 1180591620717411303424 := by
  have h0 := hc 0 (by omega); have h1 := hc 1 (by omega); have h2 := hc 2 (by omega); have h3 := hc 3 (by omega); have h4 := hc 4 (by omega); have h5 := hc 5 (by omega); have h6 := hc 6 (by omega); have h7 := hc 7 (by omega)
  clear hc
  have e : xi a = 0 + a 0 * vDi 0 + a 1 * vDi 1 + a 2 * vDi 2 + a 3 * vDi 3 + a 4 * vDi 4 + a 5 * vDi 5 + a 6 * vDi 6 + a 7 * vDi 7 := rfl
  rw [e, show vDi 0 = 0 from rfl, show vDi 1 = 335966328703700574893469230694400 from rfl, show vDi 2 = 649037107316853453566312041152512 from rfl, show vDi 3 = 917877079650896179172824953389056 from rfl, show vDi 4 = 1124165245870324036828141782564864 from rfl, show vDi 5 = 1253843408354596754066294184083456 from rfl, show vDi 6 = 1298074214633706907132624082305024 from rfl, show vDi 7 = 1253843408354596754066294184083456 from rfl]
  unfold estR
  generalize a 0 = c0 at *
  generalize a 1 = c1 at *
  generalize a 2 = c2 at *
  generalize a 3 = c3 at *
  generalize a 4 = c4 at *
  generalize a 5 = c5 at *
  generalize a 6 = c6 at *
  generalize a 7 = c7 at *
  omega
end Go.Proofs.Ytmbhbocfnpklpaa
