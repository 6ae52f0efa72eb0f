/-
  Exact points as rows of whole numbers: how powers come down, products, turned and mirrored points, and that the two ways of calculating give the same.
  Rows of numbers as the cells of an array: reading, writing and comparing them.
  Contracts of the functions of turns (chapter 1): what each call of impl's and of spec's functions gives, for every argument.
  Contracts of impl's calculations with exact points.
-/
import Derived.Test.YtpbppgaohfgpbaaRows
import Derived.Test.YtpbppgaohfgpbaaM00
import Derived.Laws.Rows
import Derived.OwnWalk
import Derived.Laws.OwnMore
import Derived.Laws.CopyOwn
import Derived.ChangeKeysEq
import Derived.Laws.StructEq
import Derived.Deep.MidRow
import Derived.WalkKit
import Derived.ProofKit
import Derived.OpenShut
import Derived.LoopTactic
import Derived.Deep.QuietTactic
import Derived.BigQuiet
import Derived.Lib.Hide
import Derived.Deep.WholeRow
import Derived.Deep.RegionWith
import Derived.StillTailTactics
import Derived.Deep.Cut
/- Exact points as rows of whole numbers: how powers come down, products, turned and mirrored points, and that the two ways of calculating give the same. -/
namespace Go.Proofs.Ytpbppgaohfgpbaa
set_option maxRecDepth 20000
set_option linter.unusedVariables false
set_option linter.unusedSimpArgs false

/-- A row with one number put in another's place. -/
def upd (f : Nat → Int) (k : Nat) (v : Int) : Nat → Int := fun j => if j = k then v else f j
/-- Two rows hold the same eight numbers. -/
def Eight (f g : Nat → Int) : Prop := ∀ j, j < 8 → f j = g j
theorem eight_cases {P : Nat → Prop} (h0 : P 0) (h1 : P 1) (h2 : P 2) (h3 : P 3) (h4 : P 4) (h5 : P 5) (h6 : P 6) (h7 : P 7) : ∀ j, j < 8 → P j := by
  intro j hj
  match j, hj with
  | 0, _ => exact h0
  | 1, _ => exact h1
  | 2, _ => exact h2
  | 3, _ => exact h3
  | 4, _ => exact h4
  | 5, _ => exact h5
  | 6, _ => exact h6
  | 7, _ => exact h7
  | n + 8, h => omega

/-- One power comes down. -/
def down (p : Nat → Int) (k : Nat) : Nat → Int := fun j => if j = k - 8 then p j - p k else if j = k - 4 then p j + p k else p j
/-- The powers from 23 on down, i of them. -/
def downs : Nat → (Nat → Int) → Nat → Int
  | 0, p => p
  | i + 1, p => down (downs i p) (23 - i)
/-- What is left of 24 powers. -/
def red (p : Nat → Int) : Nat → Int := fun j => if j < 4 then p j - p (j + 8) - p (j + 12) + p (j + 20) else p j + p (j + 4) - p (j + 12) - p (j + 16)
theorem downs_bound (B : Int) (p : Nat → Int) (hp : ∀ j, j < 24 → -B ≤ p j ∧ p j ≤ B) : ∀ i, i ≤ 16 → ∀ j, j < 24 → -(2 ^ i * B) ≤ downs i p j ∧ downs i p j ≤ 2 ^ i * B
  | 0, _, j, hj => by simpa [downs] using hp j hj
  | i + 1, hi, j, hj => by
    have h := downs_bound B p hp i (by omega)
    have h1 := h j hj
    have h2 := h (23 - i) (by omega)
    have e : (2 : Int) ^ (i + 1) * B = 2 * (2 ^ i * B) := by rw [Int.pow_succ]; grind
    simp only [downs, down]
    rw [e]
    generalize (2 : Int) ^ i * B = M at *
    split
    · omega
    · split <;> omega
theorem downs_all (p : Nat → Int) : Eight (downs 16 p) (red p) := by
  refine eight_cases ?_ ?_ ?_ ?_ ?_ ?_ ?_ ?_ <;> simp [downs, down, red] <;> omega

/-- Times the root. -/
def stp (a : Nat → Int) : Nat → Int := fun j => if j = 0 then -a 7 else if j = 4 then a 3 + a 7 else a (j - 1)
/-- Times the root, n times. -/
def stps : Nat → (Nat → Int) → Nat → Int
  | 0, a => a
  | n + 1, a => stp (stps n a)
theorem stp_same {a b : Nat → Int} (h : Eight a b) : Eight (stp a) (stp b) := by
  have h0 := h 0 (by omega); have h1 := h 1 (by omega); have h2 := h 2 (by omega); have h3 := h 3 (by omega); have h4 := h 4 (by omega); have h5 := h 5 (by omega); have h6 := h 6 (by omega); have h7 := h 7 (by omega)
  refine eight_cases ?_ ?_ ?_ ?_ ?_ ?_ ?_ ?_ <;> simp [stp, *]
theorem stps_same {a b : Nat → Int} (h : Eight a b) : ∀ n, Eight (stps n a) (stps n b)
  | 0 => h
  | n + 1 => stp_same (stps_same h n)

/-- A row of eight turned on by t, its first k numbers alone, as 24 powers. -/
def tpow (a : Nat → Int) (t k : Nat) : Nat → Int := fun m => if (m + 24 - t) % 24 < k then a ((m + 24 - t) % 24) else 0
/-- Turned on. -/
def trn (a : Nat → Int) (t : Nat) : Nat → Int := red (tpow a t 8)
/-- Mirrored. -/
def mir (a : Nat → Int) : Nat → Int := fun j => if j = 0 then a 0 + a 4 else if j < 4 then a (4 - j) else if j = 4 then -a 4 else -a (12 - j) - a (8 - j)
/-- The first k of a row of eight mirrored, as 24 powers. -/
def mpow (a : Nat → Int) (k : Nat) : Nat → Int := fun m => if (24 - m) % 24 < k then a ((24 - m) % 24) else 0
theorem mir_red (a : Nat → Int) : Eight (red (mpow a 8)) (mir a) := by
  refine eight_cases ?_ ?_ ?_ ?_ ?_ ?_ ?_ ?_ <;> simp [red, mpow, mir] <;> omega
theorem trn_zero (a : Nat → Int) : Eight (trn a 0) a := by
  refine eight_cases ?_ ?_ ?_ ?_ ?_ ?_ ?_ ?_ <;> simp [trn, red, tpow]
theorem trn_succ (a : Nat → Int) (t : Nat) (ht : t ≤ 22) : Eight (trn a (t + 1)) (stp (trn a t)) := by
  have key : ∀ m, tpow a (t + 1) 8 (m + 1) = tpow a t 8 m := fun m => by
    simp only [tpow, show m + 1 + 24 - (t + 1) = m + 24 - t by omega]
  have k0 : tpow a (t + 1) 8 0 = tpow a t 8 23 := by
    simp only [tpow, show (23 + 24 - t) % 24 = (0 + 24 - (t + 1)) % 24 by omega]
  unfold trn
  generalize tpow a (t + 1) 8 = p at *
  generalize tpow a t 8 = q at *
  refine eight_cases ?_ ?_ ?_ ?_ ?_ ?_ ?_ ?_ <;> simp [stp, red, k0, key 0, key 1, key 2, key 3, key 4, key 5, key 6, key 7, key 8, key 9, key 10, key 11, key 12, key 13, key 14, key 15, key 16, key 17, key 18, key 19, key 20, key 21, key 22] <;> omega
theorem trn_steps (a : Nat → Int) : ∀ t, t ≤ 23 → Eight (stps t a) (trn a t)
  | 0, _ => fun j hj => (trn_zero a j hj).symm
  | t + 1, h => fun j hj => (stp_same (trn_steps a t (by omega)) j hj).trans (trn_succ a t (by omega) j hj).symm

/-- One more multiple of a row. -/
def mul1 (o : Nat → Int) (n : Int) (b : Nat → Int) : Nat → Int := fun j => o j + n * b j
/-- spec's product, its first k rounds. -/
def smul (a b : Nat → Int) : Nat → Nat → Int
  | 0 => fun _ => 0
  | k + 1 => mul1 (smul a b k) (a k) (stps k b)
/-- impl's product, k numbers of the first row's number i: the powers. -/
def inner (a b : Nat → Int) (i : Nat) (p : Nat → Int) : Nat → Nat → Int
  | 0 => p
  | k + 1 => upd (inner a b i p k) (i + k) (inner a b i p k (i + k) + a i * b k)
/-- impl's product, the first i numbers of the first row: the powers. -/
def outer (a b : Nat → Int) : Nat → Nat → Int
  | 0 => fun _ => 0
  | i + 1 => inner a b i (outer a b i) 8
/-- The product. -/
def prd (a b : Nat → Int) : Nat → Int := red (outer a b 8)
theorem inner_at (a b : Nat → Int) (i : Nat) (p : Nat → Int) : ∀ k, ∀ m, inner a b i p k m = if i ≤ m ∧ m < i + k then p m + a i * b (m - i) else p m
  | 0, m => by simp [inner]; omega
  | k + 1, m => by
    simp only [inner, upd]
    have h := inner_at a b i p k
    by_cases hm : m = i + k
    · subst hm
      rw [if_pos rfl, h, if_neg (by omega), if_pos (by omega), show i + k - i = k by omega]
    · rw [if_neg hm, h]
      by_cases hi : i ≤ m ∧ m < i + k
      · rw [if_pos hi, if_pos (by omega)]
      · rw [if_neg hi, if_neg (by omega)]
theorem prod_bound {x y : Int} (hx : -1000000 ≤ x ∧ x ≤ 1000000) (hy : -1000000 ≤ y ∧ y ≤ 1000000) : -1000000000000 ≤ x * y ∧ x * y ≤ 1000000000000 := by
  have h1 : x.natAbs ≤ 1000000 := by omega
  have h2 : y.natAbs ≤ 1000000 := by omega
  have h3 : (x * y).natAbs ≤ 1000000 * 1000000 := by rw [Int.natAbs_mul]; exact Nat.mul_le_mul h1 h2
  omega
/-- All eight numbers are in their range. -/
def InR (a : Nat → Int) : Prop := ∀ j, j < 8 → -1000000 ≤ a j ∧ a j ≤ 1000000
theorem inner_bound {a b : Nat → Int} (ha : InR a) (hb : InR b) {i : Nat} (hi : i < 8) {p : Nat → Int} {B : Int} (hp : ∀ m, m < 24 → -B ≤ p m ∧ p m ≤ B) (k : Nat) (hk : k ≤ 8) : ∀ m, m < 24 → -(B + 1000000000000) ≤ inner a b i p k m ∧ inner a b i p k m ≤ B + 1000000000000 := by
  intro m hm
  rw [inner_at]
  have h := hp m hm
  split
  · next c =>
    have := prod_bound (ha i hi) (hb (m - i) (by omega))
    omega
  · omega
theorem outer_bound {a b : Nat → Int} (ha : InR a) (hb : InR b) : ∀ i : Nat, i ≤ 8 → ∀ m, m < 24 → -((i : Int) * 1000000000000) ≤ outer a b i m ∧ outer a b i m ≤ (i : Int) * 1000000000000
  | 0, _, m, hm => by simp [outer]
  | i + 1, h, m, hm => by
    have := inner_bound ha hb (i := i) (by omega) (outer_bound ha hb i (by omega)) 8 (by omega) m hm
    simp only [outer]
    omega
theorem prd_smul (a b : Nat → Int) : Eight (smul a b 8) (prd a b) := by
  refine eight_cases ?_ ?_ ?_ ?_ ?_ ?_ ?_ ?_ <;> simp [prd, red, smul, mul1, stps, stp, outer, inner_at] <;> grind

/-- The exact point 1. -/
def one : Nat → Int := fun j => if j = 0 then 1 else 0
/-- Whole parts. -/
def gau (re im : Int) : Nat → Int := fun j => if j = 0 then re else if j = 6 then im else 0
def add (a b : Nat → Int) : Nat → Int := fun j => a j + b j
def sub (a b : Nat → Int) : Nat → Int := fun j => a j - b j
def scl (n : Int) (a : Nat → Int) : Nat → Int := fun j => n * a j
theorem prd_comm (a b : Nat → Int) : Eight (prd b a) (prd a b) := by
  refine eight_cases ?_ ?_ ?_ ?_ ?_ ?_ ?_ ?_ <;> simp [prd, red, outer, inner_at] <;> grind
theorem mir_prd (a b : Nat → Int) : Eight (mir (prd a b)) (prd (mir a) (mir b)) := by
  refine eight_cases ?_ ?_ ?_ ?_ ?_ ?_ ?_ ?_ <;> simp [mir, prd, red, outer, inner_at] <;> grind
theorem prd_more (a b : Nat → Int) : Eight (prd a (add b one)) (add (prd a b) a) := by
  refine eight_cases ?_ ?_ ?_ ?_ ?_ ?_ ?_ ?_ <;> simp [add, one, prd, red, outer, inner_at] <;> grind
theorem prd_stp (a b : Nat → Int) : Eight (prd a (stp b)) (stp (prd a b)) := by
  refine eight_cases ?_ ?_ ?_ ?_ ?_ ?_ ?_ ?_ <;> simp [stp, prd, red, outer, inner_at] <;> grind
theorem prd_one (a : Nat → Int) : Eight (prd a one) a := by
  refine eight_cases ?_ ?_ ?_ ?_ ?_ ?_ ?_ ?_ <;> simp [one, prd, red, outer, inner_at]
theorem prd_same {a b b' : Nat → Int} (h : Eight b b') : Eight (prd a b) (prd a b') := by
  have h0 := h 0 (by omega); have h1 := h 1 (by omega); have h2 := h 2 (by omega); have h3 := h 3 (by omega); have h4 := h 4 (by omega); have h5 := h 5 (by omega); have h6 := h 6 (by omega); have h7 := h 7 (by omega)
  refine eight_cases ?_ ?_ ?_ ?_ ?_ ?_ ?_ ?_ <;> simp [prd, red, outer, inner_at, *]
theorem prd_stps (a : Nat → Int) : ∀ t, Eight (prd a (stps t one)) (stps t a)
  | 0 => prd_one a
  | t + 1 => fun j hj => (prd_stp a (stps t one) j hj).trans (stp_same (prd_stps a t) j hj)
theorem prd_root (a : Nat → Int) (t : Nat) (ht : t ≤ 23) : Eight (prd a (trn one t)) (trn a t) := fun j hj =>
  ((prd_same (fun j hj => (trn_steps one t ht j hj).symm)) j hj).trans ((prd_stps a t j hj).trans (trn_steps a t ht j hj))
theorem stps_add (a : Nat → Int) (n : Nat) : ∀ m, stps m (stps n a) = stps (m + n) a
  | 0 => by simp [stps]
  | m + 1 => by rw [show m + 1 + n = (m + n) + 1 by omega]; simp only [stps]; rw [stps_add a n m]
theorem stps_round (a : Nat → Int) : Eight (stps 24 a) a := by
  refine eight_cases ?_ ?_ ?_ ?_ ?_ ?_ ?_ ?_ <;> simp [stps, stp] <;> omega
theorem trn_same {a b : Nat → Int} (h : Eight a b) (t : Nat) (ht : t ≤ 23) : Eight (trn a t) (trn b t) := fun j hj =>
  (trn_steps a t ht j hj).symm.trans ((stps_same h t j hj).trans (trn_steps b t ht j hj))
theorem trn_back (a : Nat → Int) (t : Nat) (h0 : 1 ≤ t) (ht : t ≤ 23) : Eight (trn (trn a t) (24 - t)) a := fun j hj =>
  ((trn_same (fun j hj => (trn_steps a t ht j hj).symm) (24 - t) (by omega)) j hj).trans
    ((trn_steps (stps t a) (24 - t) (by omega) j hj).symm.trans ((congrFun (stps_add a t (24 - t)) j).trans (by rw [show 24 - t + t = 24 by omega]; exact stps_round a j hj)))
theorem trn_next (a : Nat → Int) (t : Nat) (ht : t ≤ 23) : Eight (trn (trn a t) 1) (trn a ((t + 1) % 24)) := fun j hj => by
  refine ((trn_same (fun j hj => (trn_steps a t ht j hj).symm) 1 (by omega)) j hj).trans ((trn_steps (stps t a) 1 (by omega) j hj).symm.trans ((congrFun (stps_add a t 1) j).trans ?_))
  by_cases h : t = 23
  · subst h
    exact (stps_round a j hj).trans (trn_zero a j hj).symm
  · rw [show (t + 1) % 24 = 1 + t by omega]
    exact trn_steps a (1 + t) (by omega) j hj
theorem mir_mir (a : Nat → Int) : Eight (mir (mir a)) a := by
  refine eight_cases ?_ ?_ ?_ ?_ ?_ ?_ ?_ ?_ <;> simp [mir] <;> omega
theorem mir_sum (a : Nat → Int) : Eight (mir (add a (mir a))) (add a (mir a)) := by
  refine eight_cases ?_ ?_ ?_ ?_ ?_ ?_ ?_ ?_ <;> simp [mir, add] <;> omega
theorem gau_turned (re im : Int) : Eight (trn (gau re im) 6) (gau (-im) re) := by
  refine eight_cases ?_ ?_ ?_ ?_ ?_ ?_ ?_ ?_ <;> simp [trn, red, tpow, gau]
theorem gau_real (re im : Int) : Eight (mir (gau re im)) (gau re im) ↔ im = 0 := by
  constructor
  · intro h
    have h6 := h 6 (by omega)
    simp [mir, gau] at h6
    omega
  · rintro rfl
    refine eight_cases ?_ ?_ ?_ ?_ ?_ ?_ ?_ ?_ <;> simp [mir, gau]
/-- A test of the eight numbers of each root, and of its product with its mirrored one. -/
def rootTest (t : Nat) : Bool := (List.range 8).all fun j => decide (-1 ≤ trn one t j) && decide (trn one t j ≤ 1) && decide (-1 ≤ mir (trn one t) j) && decide (mir (trn one t) j ≤ 1) && decide (prd (trn one t) (mir (trn one t)) j = one j)
theorem roots_test : ((List.range 24).all rootTest) = true := by decide +kernel
theorem root_facts (t : Nat) (ht : t ≤ 23) : ∀ j, j < 8 → (-1 ≤ trn one t j ∧ trn one t j ≤ 1) ∧ (-1 ≤ mir (trn one t) j ∧ mir (trn one t) j ≤ 1) ∧ prd (trn one t) (mir (trn one t)) j = one j := by
  intro j hj
  have h := List.all_eq_true.1 roots_test t (by simp; omega)
  have h' := List.all_eq_true.1 h j (by simpa using hj)
  simp only [Bool.and_eq_true, decide_eq_true_eq] at h'
  exact ⟨⟨h'.1.1.1.1, h'.1.1.1.2⟩, ⟨h'.1.1.2, h'.1.2⟩, h'.2⟩
theorem red_same {p q : Nat → Int} (h : ∀ m, m < 24 → p m = q m) : Eight (red p) (red q) := by
  intro j hj
  unfold red
  split
  · rw [h j (by omega), h (j + 8) (by omega), h (j + 12) (by omega), h (j + 20) (by omega)]
  · rw [h j (by omega), h (j + 4) (by omega), h (j + 12) (by omega), h (j + 16) (by omega)]
theorem tpow_step (a : Nat → Int) (t k : Nat) (ht : t ≤ 23) (hk : k < 8) : ∀ m, m < 24 → upd (tpow a t k) ((k + t) % 24) (a k) m = tpow a t (k + 1) m := by
  intro m hm
  simp only [upd, tpow]
  by_cases h : m = (k + t) % 24
  · rw [if_pos h, show (m + 24 - t) % 24 = k by omega, if_pos (by omega)]
  · rw [if_neg h]
    by_cases h2 : (m + 24 - t) % 24 < k
    · rw [if_pos h2, if_pos (by omega)]
    · rw [if_neg h2, if_neg (by omega)]
theorem mpow_step (a : Nat → Int) (k : Nat) (hk : k < 8) : ∀ m, m < 24 → upd (mpow a k) ((24 - k) % 24) (a k) m = mpow a (k + 1) m := by
  intro m hm
  simp only [upd, mpow]
  by_cases h : m = (24 - k) % 24
  · rw [if_pos h, show (24 - m) % 24 = k by omega, if_pos (by omega)]
  · rw [if_neg h]
    by_cases h2 : (24 - m) % 24 < k
    · rw [if_pos h2, if_pos (by omega)]
    · rw [if_neg h2, if_neg (by omega)]
theorem root_pow (t : Nat) (ht : t ≤ 23) : ∀ m, m < 24 → upd (fun _ => 0) t 1 m = tpow one t 8 m := by
  intro m hm
  simp only [upd, tpow, one]
  by_cases h : m = t
  · subst h; simp
  · rw [if_neg h]
    split
    · rw [if_neg (by omega)]
    · rfl
theorem mpow_bound {a : Nat → Int} {B : Int} (h0 : 0 ≤ B) (ha : ∀ j, j < 8 → -B ≤ a j ∧ a j ≤ B) : ∀ m, -B ≤ mpow a 8 m ∧ mpow a 8 m ≤ B := by
  intro m
  unfold mpow
  split
  · exact ha _ (by omega)
  · omega
theorem stp_bound {a : Nat → Int} {B : Int} (ha : ∀ j, j < 8 → -B ≤ a j ∧ a j ≤ B) : ∀ j, j < 8 → -(2 * B) ≤ stp a j ∧ stp a j ≤ 2 * B := by
  intro j hj
  have h3 := ha 3 (by omega)
  have h7 := ha 7 (by omega)
  unfold stp
  split
  · omega
  · split
    · omega
    · have := ha (j - 1) (by omega); omega
theorem stps_bound {a : Nat → Int} {B : Int} (ha : ∀ j, j < 8 → -B ≤ a j ∧ a j ≤ B) : ∀ n, ∀ j, j < 8 → -(2 ^ n * B) ≤ stps n a j ∧ stps n a j ≤ 2 ^ n * B
  | 0 => by simpa [stps] using ha
  | n + 1 => by
    have h := stp_bound (stps_bound ha n)
    have e : (2 : Int) ^ (n + 1) * B = 2 * (2 ^ n * B) := by rw [Int.pow_succ]; grind
    rw [e]; exact h
theorem stps_in {a : Nat → Int} (ha : InR a) (n : Nat) (hn : n ≤ 23) : ∀ j, j < 8 → -8388608000000 ≤ stps n a j ∧ stps n a j ≤ 8388608000000 := by
  intro j hj
  have h := stps_bound (B := 1000000) (fun j hj => ha j hj) n j hj
  have h2 : (2 : Int) ^ n ≤ 2 ^ 23 := by exact_mod_cast Nat.pow_le_pow_right (by omega) hn
  have h3 : (2 : Int) ^ n * 1000000 ≤ 8388608 * 1000000 := Int.mul_le_mul_of_nonneg_right (by simpa using h2) (by omega)
  omega
theorem prod_in {x y : Int} (hx : -1000000 ≤ x ∧ x ≤ 1000000) (hy : -1000000000 ≤ y ∧ y ≤ 1000000000) : -1000000000000000 ≤ x * y ∧ x * y ≤ 1000000000000000 := by
  have h1 : x.natAbs ≤ 1000000 := by omega
  have h2 : y.natAbs ≤ 1000000000 := by omega
  have h3 : (x * y).natAbs ≤ 1000000 * 1000000000 := by rw [Int.natAbs_mul]; exact Nat.mul_le_mul h1 h2
  omega
theorem stps_low {b : Nat → Int} (hb : InR b) (n : Nat) (hn : n ≤ 8) : ∀ j, j < 8 → -1000000000 ≤ stps n b j ∧ stps n b j ≤ 1000000000 := by
  intro j hj
  have h := stps_bound (B := 1000000) (fun j hj => hb j hj) n j hj
  have h2 : (2 : Int) ^ n ≤ 2 ^ 8 := by exact_mod_cast Nat.pow_le_pow_right (by omega) hn
  have h3 : (2 : Int) ^ n * 1000000 ≤ 256 * 1000000 := Int.mul_le_mul_of_nonneg_right (by simpa using h2) (by omega)
  omega
theorem smul_bound {a b : Nat → Int} (ha : InR a) (hb : InR b) : ∀ k : Nat, k ≤ 8 → ∀ j, j < 8 → -((k : Int) * 1000000000000000) ≤ smul a b k j ∧ smul a b k j ≤ (k : Int) * 1000000000000000
  | 0, _, j, hj => by simp [smul]
  | k + 1, h, j, hj => by
    have h1 := smul_bound ha hb k (by omega) j hj
    have h2 := prod_in (ha k (by omega)) (stps_low hb k (by omega) j hj)
    simp only [smul, mul1]
    omega
/-- spec's mirrored point, its first k rounds. -/
def smir (a : Nat → Int) : Nat → Nat → Int
  | 0 => fun _ => 0
  | k + 1 => mul1 (smir a k) (a k) (trn one ((24 - k) % 24))
theorem smir_mir (a : Nat → Int) : Eight (smir a 8) (mir a) := by
  refine eight_cases ?_ ?_ ?_ ?_ ?_ ?_ ?_ ?_ <;> simp [smir, mul1, mir, trn, red, tpow, one] <;> omega
theorem one_times {x y : Int} (hx : -1000000 ≤ x ∧ x ≤ 1000000) (hy : -1 ≤ y ∧ y ≤ 1) : -1000000 ≤ x * y ∧ x * y ≤ 1000000 := by
  rcases (show y = -1 ∨ y = 0 ∨ y = 1 by omega) with rfl | rfl | rfl <;> omega
theorem smir_bound {a : Nat → Int} (ha : InR a) : ∀ k : Nat, k ≤ 8 → ∀ j, j < 8 → -((k : Int) * 1000000) ≤ smir a k j ∧ smir a k j ≤ (k : Int) * 1000000
  | 0, _, j, hj => by simp [smir]
  | k + 1, h, j, hj => by
    have h1 := smir_bound ha k (by omega) j hj
    have h2 := one_times (ha k (by omega)) (root_facts ((24 - k) % 24) (by omega) j hj).1
    simp only [smir, mul1]
    omega
theorem trn_bound {a : Nat → Int} {B : Int} (h0 : 0 ≤ B) (ha : ∀ j, j < 8 → -B ≤ a j ∧ a j ≤ B) (t : Nat) : ∀ m, -B ≤ tpow a t 8 m ∧ tpow a t 8 m ≤ B := by
  intro m
  unfold tpow
  split
  · exact ha _ (by omega)
  · omega
end Go.Proofs.Ytpbppgaohfgpbaa
/- Rows of numbers as the cells of an array: reading, writing and comparing them. -/
namespace Go.Proofs.Ytpbppgaohfgpbaa
set_option maxRecDepth 20000
open Go.ChangeShapes Go.WideShapes Go.ChangeAt Go.RowKit
set_option linter.unusedVariables false
set_option linter.unusedSimpArgs false

/-- n numbers as cells. -/
def lst (n : Nat) (f : Nat → Int) : List Value := (List.range n).map fun k => Value.int .i64 (f k)
/-- n numbers as the cells of an array. -/
def vec (n : Nat) (f : Nat → Int) : Array Value := (lst n f).toArray
theorem lst_length (n : Nat) (f : Nat → Int) : (lst n f).length = n := by simp [lst]
theorem lst_one (n : Nat) (f : Nat → Int) : ∀ v ∈ lst n f, v.oneCell' = true := by
  intro v hv
  simp only [lst, List.mem_map] at hv
  obtain ⟨k, _, rfl⟩ := hv
  rfl
theorem vec_size (n : Nat) (f : Nat → Int) : (vec n f).size = n := by simp [vec, lst]
theorem vec_at {n k : Nat} (f : Nat → Int) (h : k < n) : (vec n f)[k]? = some (.int .i64 (f k)) := by simp [vec, lst, h]
theorem vec_same {n : Nat} {f g : Nat → Int} (h : ∀ j, j < n → f j = g j) : vec n f = vec n g := by
  unfold vec lst
  congr 1
  apply List.map_congr_left
  intro k hk
  rw [h k (by simpa using hk)]
theorem vec_inj {n : Nat} {f g : Nat → Int} (h : vec n f = vec n g) : ∀ j, j < n → f j = g j := by
  intro j hj
  have e := congrArg (·[j]?) h
  simpa [vec_at f hj, vec_at g hj] using e
theorem vec_set {n k : Nat} (f : Nat → Int) (v : Int) (h : k < n) : (vec n f).setIfInBounds k (.int .i64 v) = vec n (upd f k v) := by
  apply Array.ext_getElem?
  intro i
  rw [Array.getElem?_setIfInBounds]
  by_cases hi : i < n
  · rw [vec_at _ hi, vec_at _ hi, vec_size]
    by_cases hk : k = i
    · subst hk; simp [upd, hi]
    · rw [if_neg hk]; simp [upd, Ne.symm hk]
  · rw [Array.getElem?_eq_none (by simp [vec_size]; omega)]
    have hne : k ≠ i := by omega
    rw [if_neg hne, Array.getElem?_eq_none (by simp [vec_size]; omega)]
theorem vec_one (n : Nat) (f : Nat → Int) : (vec n f).all (·.oneCell') = true := by
  rw [Array.all_eq_true_iff_forall_mem]
  intro v hv
  simp only [vec, lst, List.mem_toArray, List.mem_map] at hv
  obtain ⟨k, _, rfl⟩ := hv
  rfl
/-- The first k numbers of f, then g's. -/
def mix (k : Nat) (f g : Nat → Int) : Nat → Int := fun j => if j < k then f j else g j
theorem mix_zero (f g : Nat → Int) : mix 0 f g = g := by funext j; simp [mix]
theorem mix_at (k : Nat) (f g : Nat → Int) : mix k f g k = g k := by simp [mix]
theorem mix_step (k : Nat) (f g : Nat → Int) : upd (mix k f g) k (f k) = mix (k + 1) f g := by
  funext j
  simp only [upd, mix]
  by_cases h : j = k
  · subst h; simp
  · rw [if_neg h]
    by_cases h' : j < k
    · rw [if_pos h', if_pos (by omega)]
    · rw [if_neg h', if_neg (by omega)]
theorem mix_all (n : Nat) (f g : Nat → Int) : ∀ j, j < n → mix n f g j = f j := fun j hj => by simp [mix, hj]
theorem vec_mix (n : Nat) (f g : Nat → Int) : vec n (mix n f g) = vec n f := vec_same (mix_all n f g)
theorem upto_succ {P : Nat → Prop} {k : Nat} (h : ∀ j, j < k → P j) (hk : P k) : ∀ j, j < k + 1 → P j := fun j hj => by
  by_cases hj' : j < k
  · exact h j hj'
  · rw [show j = k by omega]; exact hk
/-- Block g holds n numbers. -/
def RowAt (w : World) (g n : Nat) (T : TypeId) (f : Nat → Int) : Prop := w.heap[g]? = some (.cells (vec n f) T (0, 0))
theorem RowAt.cell {w : World} {g n : Nat} {T : TypeId} {f : Nat → Int} (h : RowAt w g n T f) {k : Nat} (hk : k < n) : w.cell? ⟨g, k, none⟩ = some (.int .i64 (f k)) := by
  rw [cell_of_row _ _ _ _ _ _ h, vec_at f hk]
theorem RowAt.free {w : World} {g n : Nat} {T : TypeId} {f : Nat → Int} (h : RowAt w g n T f) (k : Nat) : w.frozen? ⟨g, k, none⟩ = false := frozen_of_row _ _ _ _ _ h
theorem RowAt.lt {w : World} {g n : Nat} {T : TypeId} {f : Nat → Int} (h : RowAt w g n T f) : g < w.heap.size :=
  Nat.lt_of_not_le fun hle => by unfold RowAt at h; rw [Array.getElem?_eq_none hle] at h; cases h
theorem RowAt.set {w : World} {g n : Nat} {T : TypeId} {f : Nat → Int} (h : RowAt w g n T f) {k : Nat} (hk : k < n) (v : Int) : RowAt (w.setCell ⟨g, k, none⟩ (.int .i64 v)) g n T (upd f k v) := by
  unfold RowAt
  rw [heap_setCell_same w g k _ T _ h, vec_set f v hk]
theorem RowAt.other {w : World} {g n : Nat} {T : TypeId} {f : Nat → Int} (h : RowAt w g n T f) (a : Addr) (v : Value) (ha : g ≠ a.block) : RowAt (w.setCell a v) g n T f := by
  unfold RowAt
  rw [heap_setCell_other w a g v ha]; exact h
theorem RowAt.alloc {w : World} {g n : Nat} {T : TypeId} {f : Nat → Int} (h : RowAt w g n T f) (o : Obj) : RowAt (w.alloc o) g n T f := by
  unfold RowAt
  exact (heap_alloc_old w o h.lt).trans h
theorem RowAt.new (w : World) (n : Nat) (T : TypeId) (f : Nat → Int) : RowAt (w.alloc (.cells (vec n f) T)) w.heap.size n T f := heap_alloc_new _ _
theorem RowAt.newAt {w : World} {n : Nat} {T : TypeId} {f : Nat → Int} {cs : Array Value} {g : Nat} (e : cs = vec n f) (h : w.heap.size = g) : RowAt (w.alloc (.cells cs T)) g n T f := by
  subst e; subst h; exact heap_alloc_new _ _
theorem RowAt.setRow {w : World} {g n : Nat} {T : TypeId} {f f' : Nat → Int} (h : RowAt w g n T f) : RowAt (w.setRow g (vec n f')) g n T f' := setRow_heap _ _ _ _ _ _ h
theorem RowAt.rowOther {w : World} {g n : Nat} {T : TypeId} {f : Nat → Int} (h : RowAt w g n T f) (G : Nat) (cs : Array Value) (ha : g ≠ G) : RowAt (w.setRow G cs) g n T f := (setRow_other _ _ _ _ ha).trans h
theorem RowAt.below {w w' : World} {g n : Nat} {T : TypeId} {f : Nat → Int} (h : RowAt w g n T f) (hb : Below w.heap.size w w') : RowAt w' g n T f := (hb.block _ h.lt).trans h
theorem RowAt.drew {w : World} {g n : Nat} {T : TypeId} {f : Nat → Int} (h : RowAt w g n T f) (m : Nat) : RowAt (w.drewN m) g n T f := h
theorem RowAt.drew1 {w : World} {g n : Nat} {T : TypeId} {f : Nat → Int} (h : RowAt w g n T f) : RowAt w.drew g n T f := h
theorem RowAt.same {w : World} {g n : Nat} {T : TypeId} {f f' : Nat → Int} (h : RowAt w g n T f) (e : ∀ j, j < n → f j = f' j) : RowAt w g n T f' := by
  unfold RowAt; rw [← vec_same e]; exact h
/-- An exact point as a value. -/
abbrev pt (a : Nat → Int) : Value := .agg (vec 8 a)
theorem pt_same {a b : Nat → Int} (h : Eight a b) : pt a = pt b := by unfold pt; rw [vec_same h]

theorem RowAt.range {w : World} {g n : Nat} {T : TypeId} {f : Nat → Int} (h : RowAt w g n T f) : w.rangeAt g 0 (lst n f) := fun j v hv => by
  rw [Nat.zero_add, cell_of_row _ _ _ _ _ _ h]
  simpa [vec] using hv
theorem RowAt.there {w : World} {g n : Nat} {T : TypeId} {f : Nat → Int} (h : RowAt w g n T f) : w.there g 0 n := fun j hj => by
  rw [Nat.zero_add, h.cell hj, h.free j]; exact ⟨rfl, rfl⟩
theorem RowAt.cellsFrom {g n : Nat} {T : TypeId} : ∀ (vs : List Int) (o : Nat) (w : World) (f : Nat → Int), RowAt w g n T f → o + vs.length ≤ n →
    ∃ f', RowAt (w.setCells g o (vs.map (Value.int .i64))) g n T f' ∧ (∀ j, j < o → f' j = f j) ∧ ∀ i, i < vs.length → f' (o + i) = vs.getD i 0
  | [], o, w, f, h, _ => ⟨f, h, fun _ _ => rfl, fun i hi => absurd hi (by simp)⟩
  | v :: vs, o, w, f, h, hl => by
    simp only [List.length_cons] at hl
    obtain ⟨f', h', hb, hi⟩ := RowAt.cellsFrom vs (o + 1) _ _ (h.set (k := o) (by omega) v) (by omega)
    refine ⟨f', h', fun j hj => ?_, fun i hlt => ?_⟩
    · rw [hb j (by omega)]; simp [upd]; omega
    · cases i with
      | zero => rw [Nat.add_zero, hb o (by omega)]; simp [upd]
      | succ i => rw [show o + (i + 1) = o + 1 + i by omega, hi i (by simpa using hlt)]; simp
theorem RowAt.cells {w : World} {g n : Nat} {T : TypeId} {f f' : Nat → Int} (h : RowAt w g n T f) : RowAt (w.setCells g 0 (lst n f')) g n T f' := by
  have e : lst n f' = ((List.range n).map f').map (Value.int .i64) := by simp [lst]
  rw [e]
  obtain ⟨F, hF, _, hi⟩ := RowAt.cellsFrom ((List.range n).map f') 0 w f h (by simp)
  refine hF.same fun j hj => ?_
  have := hi j (by simpa using hj)
  rw [Nat.zero_add] at this
  rw [this]
  simp [List.getD_eq_getElem?_getD, hj]
theorem heap_setCells_other (g : Nat) : ∀ (vs : List Value) (o : Nat) (w : World) (k : Nat), k ≠ g → (w.setCells g o vs).heap[k]? = w.heap[k]?
  | [], _, _, _, _ => rfl
  | v :: vs, o, w, k, h => (heap_setCells_other g vs (o + 1) _ k h).trans (heap_setCell_other w _ k v h)
theorem RowAt.cellsOther {w : World} {g n : Nat} {T : TypeId} {f : Nat → Int} (h : RowAt w g n T f) (G o : Nat) (vs : List Value) (ha : g ≠ G) : RowAt (w.setCells G o vs) g n T f := (heap_setCells_other G vs o w g ha).trans h
theorem below_setCells {B : Nat} {a : World} {G : Nat} (hG : B ≤ G) : ∀ (vs : List Value) (o : Nat) (w : World), Below B a w → Below B a (w.setCells G o vs)
  | [], _, _, h => h
  | v :: vs, o, w, h => below_setCells hG vs (o + 1) _ (h.setCell (p := ⟨G, o, none⟩) hG v)
theorem below_next {w W w2 : World} (h : Below w.heap.size w W) (k : Below W.heap.size W w2) : Below w.heap.size w w2 := h.trans (k.mono h.size)
/-! What a function hands back out of its rows. -/
section
variable {P : Program} {fn : Func} {p q r : Tmp} {ty ty' : TypeId} {tmps : Array Value} {w : World} {g g' n n' : Nat} {T T' : TypeId} {f f' : Nat → Int} {d d' : TypeDesc}
theorem run_row (hg : RowAt w g n T f) (hu : P.underlying ty = some d) (hd : (match d with | .struct _ | .array _ _ => true | _ => false) = true) (hi : (P.info? ty).map (·.size) = some n) :
    (loadVar ty ⟨g, 0, none⟩).run P w = .ok (.agg (vec n f)) w := run_loadVar_row w g T ty (vec n f) (0, 0) d hg hu hd (by rw [vec_size]; exact hi)
theorem results_row (h : fn.results = #[.cell p ty]) (hp : tmps.getD p undef = .pointer (some ⟨g, 0, none⟩)) (hg : RowAt w g n T f) (hu : P.underlying ty = some d)
    (hd : (match d with | .struct _ | .array _ _ => true | _ => false) = true) (hi : (P.info? ty).map (·.size) = some n) : (results fn tmps).run P w = .ok (.agg (vec n f)) w := by
  have hp' : tmps[p]?.getD undef = .pointer (some ⟨g, 0, none⟩) := by simpa using hp
  simp [results, h, hp', asAddr, run_row hg hu hd hi]
theorem results_row_tmp (h : fn.results = #[.cell p ty, .tmp q]) (hp : tmps.getD p undef = .pointer (some ⟨g, 0, none⟩)) (hg : RowAt w g n T f) (hu : P.underlying ty = some d)
    (hd : (match d with | .struct _ | .array _ _ => true | _ => false) = true) (hi : (P.info? ty).map (·.size) = some n) : (results fn tmps).run P w = .ok (.tuple #[.agg (vec n f), tmps.getD q undef]) w := by
  have hp' : tmps[p]?.getD undef = .pointer (some ⟨g, 0, none⟩) := by simpa using hp
  simp [results, h, hp', asAddr, run_row hg hu hd hi, Sem.run_bind]
theorem results_row2_tmp (h : fn.results = #[.cell p ty, .cell q ty', .tmp r]) (hp : tmps.getD p undef = .pointer (some ⟨g, 0, none⟩)) (hq : tmps.getD q undef = .pointer (some ⟨g', 0, none⟩)) (hg : RowAt w g n T f) (hg' : RowAt w g' n' T' f')
    (hu : P.underlying ty = some d) (hd : (match d with | .struct _ | .array _ _ => true | _ => false) = true) (hi : (P.info? ty).map (·.size) = some n)
    (hu' : P.underlying ty' = some d') (hd' : (match d' with | .struct _ | .array _ _ => true | _ => false) = true) (hi' : (P.info? ty').map (·.size) = some n') :
    (results fn tmps).run P w = .ok (.tuple #[.agg (vec n f), .agg (vec n' f'), tmps.getD r undef]) w := by
  have hp' : tmps[p]?.getD undef = .pointer (some ⟨g, 0, none⟩) := by simpa using hp
  have hq' : tmps[q]?.getD undef = .pointer (some ⟨g', 0, none⟩) := by simpa using hq
  simp [results, h, hp', hq', asAddr, run_row hg hu hd hi, run_row hg' hu' hd' hi', Sem.run_bind]
theorem results_row2 (h : fn.results = #[.cell p ty, .cell q ty']) (hp : tmps.getD p undef = .pointer (some ⟨g, 0, none⟩)) (hq : tmps.getD q undef = .pointer (some ⟨g', 0, none⟩)) (hg : RowAt w g n T f) (hg' : RowAt w g' n' T' f')
    (hu : P.underlying ty = some d) (hd : (match d with | .struct _ | .array _ _ => true | _ => false) = true) (hi : (P.info? ty).map (·.size) = some n)
    (hu' : P.underlying ty' = some d') (hd' : (match d' with | .struct _ | .array _ _ => true | _ => false) = true) (hi' : (P.info? ty').map (·.size) = some n') :
    (results fn tmps).run P w = .ok (.tuple #[.agg (vec n f), .agg (vec n' f')]) w := by
  have hp' : tmps[p]?.getD undef = .pointer (some ⟨g, 0, none⟩) := by simpa using hp
  have hq' : tmps[q]?.getD undef = .pointer (some ⟨g', 0, none⟩) := by simpa using hq
  simp [results, h, hp', hq', asAddr, run_row hg hu hd hi, run_row hg' hu' hd' hi', Sem.run_bind]
theorem load_row {ops : Array Oper} {rest : List Oper} {o : Oper} {a : Act} {Q : Exit → Act → World → Prop} (hgd : o.guard = none) {x : Operand} (ho : o.op = .load ty x)
    (hx : a.eval x = .pointer (some ⟨g, 0, none⟩)) (hg : RowAt w g n T f) (hu : P.underlying ty = some d) (hd : (match d with | .struct _ | .array _ _ => true | _ => false) = true) (hi : (P.info? ty).map (·.size) = some n)
    (h : wpList P ops Q rest (a.put o.dst (.agg (vec n f))) w) : wpList P ops Q (o :: rest) a w :=
  wpList_load_row hgd ty x ho g hx T (vec n f) (0, 0) d hg hu hd (by rw [vec_size]; exact hi) h
theorem store_step {o : Oper} {a : Act} {K : Act → World → Prop} {Q : Exit → Act → World → Prop} {x y : Operand} (ho : o.op = .store ty x y)
    (hx : a.eval x = .pointer (some ⟨g, 0, none⟩)) (hy : a.eval y = .agg (vec n f')) (hg : RowAt w g n T f) (hi : (P.info? ty).map (·.size) = some n)
    (h : K (a.put o.dst undef) (w.setRow g (vec n f'))) : o.wp P a w K Q :=
  wp_store_row ty x y ho g (vec n f') hx hy T (vec n f) hg (by rw [vec_size]; exact hi) (by rw [vec_size, vec_size]) (vec_one n f') h
theorem load_step {o : Oper} {a : Act} {K : Act → World → Prop} {Q : Exit → Act → World → Prop} {x : Operand} (ho : o.op = .load ty x)
    (hx : a.eval x = .pointer (some ⟨g, 0, none⟩)) (hg : RowAt w g n T f) (hu : P.underlying ty = some d) (hd : (match d with | .struct _ | .array _ _ => true | _ => false) = true) (hi : (P.info? ty).map (·.size) = some n)
    (h : K (a.put o.dst (.agg (vec n f))) w) : o.wp P a w K Q :=
  wp_load_row ty x ho g hx T (vec n f) (0, 0) d hg hu hd (by rw [vec_size]; exact hi) h
theorem store_row {ops : Array Oper} {rest : List Oper} {o : Oper} {a : Act} {Q : Exit → Act → World → Prop} (hgd : o.guard = none) {x y : Operand} (ho : o.op = .store ty x y)
    (hx : a.eval x = .pointer (some ⟨g, 0, none⟩)) (hy : a.eval y = .agg (vec n f')) (hg : RowAt w g n T f) (hi : (P.info? ty).map (·.size) = some n)
    (h : wpList P ops Q rest (a.put o.dst undef) (w.setRow g (vec n f'))) : wpList P ops Q (o :: rest) a w :=
  wpList_store_row hgd ty x y ho g (vec n f') hx hy T (vec n f) hg (by rw [vec_size]; exact hi) (by rw [vec_size, vec_size]) (vec_one n f') h
end
/-! Reading one number of an array by value, and comparing two. -/
section
variable {P : Program}
theorem run_index_vec {t e : TypeId} {n k : Nat} {f : Nat → Int} {i : TypeInfo} (hu : P.underlying t = some (.array n e)) (hi : P.info? e = some i) (hc : P.cellsOf e = 1) (hp : P.plainKey e = true) (hk : k < n) (w : World) :
    (Instr.index t (.agg (vec n f)) (.int .i64 k)).run P w = .ok (.int .i64 (f k)) w := by
  have hn : (0 : Int) ≤ (k : Int) ∧ (k : Int) < (n : Int) := by omega
  have hk' : ¬ n ≤ k := by omega
  simp [Instr.index, run_underlying hu, asIntOf, hn, hk, hk', Sem.run_bind, run_sizeOf w hi, hc, run_part_plain (w := w) hp (vec_at f hk)]
/-- Whether two rows hold the same n numbers. -/
def eqv (n : Nat) (f g : Nat → Int) : Bool := (List.range n).all fun j => f j == g j
theorem eqv_true {n : Nat} {f g : Nat → Int} (h : ∀ j, j < n → f j = g j) : eqv n f g = true := by
  unfold eqv; rw [List.all_eq_true]; intro j hj; simpa using h j (by simpa using hj)
theorem eqv_same {n : Nat} {f g : Nat → Int} (h : eqv n f g = true) : ∀ j, j < n → f j = g j := by
  unfold eqv at h; rw [List.all_eq_true] at h; intro j hj; simpa using h j (by simpa using hj)
theorem eqItems_vec {d : Nat} {e : TypeId} {n : Nat} {f g : Nat → Int} (he : P.underlying e = some (.int .i64)) (hp : P.plainKey e = true) (w : World) : ∀ (is : List Nat), (∀ i ∈ is, i < n) →
    (Op.eqItems (d + 1) e 1 (vec n f) (vec n g) is).run P w = .ok (is.all fun j => f j == g j) w
  | [], _ => by simp [Op.eqItems]
  | i :: is, h => by
    have hi := h i (by simp)
    simp only [Op.eqItems, Nat.mul_one, Sem.run_bind, run_part_plain (w := w) hp (vec_at f hi), run_part_plain (w := w) hp (vec_at g hi), Result.andThen_ok, run_equalIn_int w d e .i64 .i64 (f i) (g i) he]
    have ih := eqItems_vec (d := d) (f := f) (g := g) he hp w is (fun j hj => h j (by simp [hj]))
    by_cases hb : f i = g i
    · simp [hb, ih]
    · simp [hb]
theorem equal_vec {d : Nat} {t e : TypeId} {n : Nat} {f g : Nat → Int} {i : TypeInfo} (hu : P.underlying t = some (.array n e)) (hi : P.info? e = some i) (hc : P.cellsOf e = 1) (he : P.underlying e = some (.int .i64)) (hp : P.plainKey e = true) (w : World) :
    (Op.equalIn (d + 2) t (.agg (vec n f)) (.agg (vec n g))).run P w = .ok (eqv n f g) w := by
  rw [run_equalIn_array w (d + 1) _ _ hu hi, hc]
  exact eqItems_vec he hp w _ (fun j hj => by simpa using hj)
theorem vec_extract (n : Nat) (f : Nat → Int) : (vec n f).extract 0 (0 + n) = vec n f := by
  rw [Nat.zero_add]
  have := Array.extract_size (xs := vec n f)
  rwa [vec_size] at this
theorem equal_one {d : Nat} {s t e : TypeId} {n : Nat} {f g : Nat → Int} {i it : TypeInfo} {fd : Field} (hs : P.underlying s = some (.struct #[fd])) (hst : P.stoodInHeld s = false)
    (hef : ∀ (d : Nat) (xs ys : Array Value), Op.eqFields d xs ys [fd] = (do
      let a ← part fd.type xs fd.offset
      let b ← part fd.type ys fd.offset
      let r ← Op.equalIn d fd.type a b
      if (!r) = true then pure false else Op.eqFields d xs ys []))
    (hft : fd.type = t) (hfo : fd.offset = 0)
    (hu : P.underlying t = some (.array n e)) (hit : P.info? t = some it) (hct : P.cellsOf t = n) (hi : P.info? e = some i) (hc : P.cellsOf e = 1) (he : P.underlying e = some (.int .i64)) (hp : P.plainKey e = true) (w : World) :
    (Op.equalIn (d + 3) s (.agg (vec n f)) (.agg (vec n g))).run P w = .ok (eqv n f g) w := by
  have hF : P.fieldsOf s = #[fd] := by simp [Program.fieldsOf, hs]
  have hagg : (isAgg t).run P w = .ok true w := by simp [isAgg, run_underlying hu, Sem.run_bind]
  have hpart : ∀ h : Nat → Int, (part t (vec n h) 0).run P w = .ok (.agg (vec n h)) w := fun h => by
    have := vec_extract n h
    simp only [Nat.zero_add] at this
    simp [part, Sem.run_bind, hagg, run_sizeOf w hit, hct, this]
  rw [run_equalIn_struct w (d + 2) s _ _ (by rw [hF]; exact hs) hst, hF]
  rw [show (#[fd] : Array Field).toList = [fd] from rfl, hef]
  simp only [Sem.run_bind, hft, hfo, hpart, Result.andThen_ok, equal_vec (d := d) hu hi hc he hp w]
  cases eqv n f g <;> simp [Op.eqFields]
end

/-! Valid points and what functions answer of them. -/
/-- Whether a coefficient is in its range. -/
def inC (c : Int) : Bool := decide (-1000000 ≤ c) && decide (c ≤ 1000000)
/-- Whether the eight coefficients are in their range. -/
def okc (a : Nat → Int) : Bool := (List.range 8).all fun j => inC (a j)
theorem okc_inR {a : Nat → Int} (h : okc a = true) : InR a := by
  intro j hj
  unfold okc at h
  rw [List.all_eq_true] at h
  simpa [inC] using h j (by simpa using hj)
theorem inR_okc {a : Nat → Int} (h : InR a) : okc a = true := by
  unfold okc
  rw [List.all_eq_true]
  intro j hj
  simpa [inC] using h j (by simpa using hj)
theorem okc_not {a : Nat → Int} {k : Nat} (hk : k < 8) (h : ¬ (-1000000 ≤ a k ∧ a k ≤ 1000000)) : okc a = false := by
  cases hv : okc a
  · rfl
  · exact absurd (okc_inR hv k hk) h
/-- The zero point. -/
def nul : Nat → Int := fun _ => 0
/-- What is answered of a result: the point and true, or zero and false. -/
def ans (v : Bool) (c : Nat → Int) : Value := .tuple #[pt (if v && okc c then c else nul), .bool (v && okc c)]
theorem ans_no (c : Nat → Int) : ans false c = .tuple #[pt nul, .bool false] := rfl
theorem ans_yes {c : Nat → Int} (h : okc c = true) : ans true c = .tuple #[pt c, .bool true] := by simp [ans, h]
theorem ans_bad {c : Nat → Int} (h : okc c = false) : ans true c = .tuple #[pt nul, .bool false] := by simp [ans, h]
theorem okc_same {a b : Nat → Int} (h : Eight a b) : okc a = okc b := by
  rw [Bool.eq_iff_iff]
  exact ⟨fun hv => inR_okc fun j hj => by rw [← h j hj]; exact okc_inR hv j hj, fun hv => inR_okc fun j hj => by rw [h j hj]; exact okc_inR hv j hj⟩
theorem ans_same {a b : Nat → Int} (v : Bool) (h : Eight a b) : ans v a = ans v b := by
  unfold ans
  rw [okc_same h]
  by_cases hv : (v && okc b) = true
  · rw [if_pos hv, if_pos hv, pt_same h]
  · rw [if_neg hv, if_neg hv]
/-! Worlds in which a function begins, and behind its first call. -/
/-- Two points and a result's variable. -/
def box2 (w : World) (a b : Nat → Int) (T O : TypeId) : World := ((w.alloc (.cells (vec 8 a) T)).alloc (.cells (vec 8 b) T)).alloc (.cells (vec 8 nul) O)
theorem box2_facts (w : World) (a b : Nat → Int) (T O : TypeId) : RowAt (box2 w a b T O) w.heap.size 8 T a ∧ RowAt (box2 w a b T O) (w.heap.size + 1) 8 T b ∧ RowAt (box2 w a b T O) (w.heap.size + 1 + 1) 8 O nul ∧ Below w.heap.size w (box2 w a b T O) :=
  ⟨((RowAt.newAt rfl rfl).alloc _).alloc _, (RowAt.newAt rfl (by simp)).alloc _, RowAt.newAt rfl (by simp), (((Below.refl _ _).alloc (Nat.le_refl _) _).alloc (by simp) _).alloc (by simp; omega) _⟩
/-- One point and a result's variable. -/
def box1 (w : World) (a : Nat → Int) (T O : TypeId) : World := (w.alloc (.cells (vec 8 a) T)).alloc (.cells (vec 8 nul) O)
theorem box1_facts (w : World) (a : Nat → Int) (T O : TypeId) : RowAt (box1 w a T O) w.heap.size 8 T a ∧ RowAt (box1 w a T O) (w.heap.size + 1) 8 O nul ∧ Below w.heap.size w (box1 w a T O) :=
  ⟨(RowAt.newAt rfl rfl).alloc _, RowAt.newAt rfl (by simp), ((Below.refl _ _).alloc (Nat.le_refl _) _).alloc (by simp) _⟩
/-- One point. -/
def box0 (w : World) (a : Nat → Int) (T : TypeId) : World := w.alloc (.cells (vec 8 a) T)
theorem box0_facts (w : World) (a : Nat → Int) (T : TypeId) : RowAt (box0 w a T) w.heap.size 8 T a ∧ Below w.heap.size w (box0 w a T) := ⟨RowAt.newAt rfl rfl, (Below.refl _ _).alloc (Nat.le_refl _) _⟩
theorem pair_first (w : World) (E : TypeId) : RowAt ((w.alloc (.cells (vec 8 nul) E)).alloc (.cells (vec 8 nul) E)) w.heap.size 8 E nul := (RowAt.newAt rfl rfl : RowAt _ _ 8 E nul).alloc _
theorem pair_second (w : World) (a : Nat → Int) (E : TypeId) : RowAt (((w.alloc (.cells (vec 8 nul) E)).alloc (.cells (vec 8 nul) E)).setRow w.heap.size (vec 8 a)) (w.heap.size + 1) 8 E nul :=
  (RowAt.newAt rfl (by simp) : RowAt _ _ 8 E nul).rowOther _ _ (by omega)
/-- Two new variables with points stored. -/
def two (w : World) (a b : Nat → Int) (E : TypeId) : World := (((w.alloc (.cells (vec 8 nul) E)).alloc (.cells (vec 8 nul) E)).setRow w.heap.size (vec 8 a)).setRow (w.heap.size + 1) (vec 8 b)
theorem two_first (w : World) (a b : Nat → Int) (E : TypeId) : RowAt (two w a b E) w.heap.size 8 E a := (((RowAt.newAt rfl rfl : RowAt _ _ 8 E nul).alloc _).setRow).rowOther _ _ (by omega)
theorem two_second (w : World) (a b : Nat → Int) (E : TypeId) : RowAt (two w a b E) (w.heap.size + 1) 8 E b := ((RowAt.newAt rfl (by simp) : RowAt _ _ 8 E nul).rowOther _ _ (by omega)).setRow
theorem two_keep {w : World} {g n : Nat} {T : TypeId} {f : Nat → Int} (h : RowAt w g n T f) (a b : Nat → Int) (E : TypeId) : RowAt (two w a b E) g n T f :=
  have := h.lt
  (((h.alloc _).alloc _).rowOther _ _ (by omega)).rowOther _ _ (by omega)
theorem two_below {w W : World} (h : Below w.heap.size w W) (a b : Nat → Int) (E : TypeId) : Below w.heap.size w (two W a b E) :=
  have := h.size
  below_setRow (below_setRow ((h.alloc this _).alloc (by simp; omega) _) this _) (by omega) _
/-- A new variable with a point stored. -/
def sole (w : World) (a : Nat → Int) (E : TypeId) : World := (w.alloc (.cells (vec 8 nul) E)).setRow w.heap.size (vec 8 a)
theorem sole_first (w : World) (a : Nat → Int) (E : TypeId) : RowAt (sole w a E) w.heap.size 8 E a := (RowAt.newAt rfl rfl : RowAt _ _ 8 E nul).setRow
theorem sole_keep {w : World} {g n : Nat} {T : TypeId} {f : Nat → Int} (h : RowAt w g n T f) (a : Nat → Int) (E : TypeId) : RowAt (sole w a E) g n T f :=
  have := h.lt
  (h.alloc _).rowOther _ _ (by omega)
theorem sole_below {w W : World} (h : Below w.heap.size w W) (a : Nat → Int) (E : TypeId) : Below w.heap.size w (sole W a E) :=
  have := h.size
  below_setRow (h.alloc this _) this _
theorem eqv_comm (n : Nat) (f g : Nat → Int) : eqv n f g = eqv n g f := by
  unfold eqv
  congr 1
  funext j
  exact Bool.beq_comm
/-- Whether a point is its own mirror. -/
def rl (a : Nat → Int) : Bool := eqv 8 (mir a) a
/-- Two points. -/
def boxAB (w : World) (a b : Nat → Int) (T : TypeId) : World := (w.alloc (.cells (vec 8 a) T)).alloc (.cells (vec 8 b) T)
theorem boxAB_facts (w : World) (a b : Nat → Int) (T : TypeId) : RowAt (boxAB w a b T) w.heap.size 8 T a ∧ RowAt (boxAB w a b T) (w.heap.size + 1) 8 T b ∧ Below w.heap.size w (boxAB w a b T) ∧ (boxAB w a b T).heap.size = w.heap.size + 1 + 1 :=
  ⟨(RowAt.newAt rfl rfl).alloc _, RowAt.newAt rfl (by simp), ((Below.refl _ _).alloc (Nat.le_refl _) _).alloc (by simp) _, by simp [boxAB]⟩
end Go.Proofs.Ytpbppgaohfgpbaa
/- Contracts of the functions of turns (chapter 1): what each call of impl's and of spec's functions gives, for every argument. -/
namespace Go.Proofs.Ytpbppgaohfgpbaa
set_option maxRecDepth 20000
open Go.ChangeShapes Go.WideShapes Go.ChangeAt Go.RowKit
set_option linter.unusedVariables false
set_option linter.unusedSimpArgs false

theorem ret_bool {a b : Bool} (h : a = b) : Ending.returned (.bool a) = .returned (.bool b) := by rw [h]
theorem ret_ib {a b : Int} {x y : Bool} (h : a = b) (hx : x = y) : Ending.returned (.tuple #[.int .i64 a, .bool x]) = .returned (.tuple #[.int .i64 b, .bool y]) := by rw [h, hx]
theorem tmod24 (n : Int) : n.tmod 24 = if 0 ≤ n then n % 24 else -((-n) % 24) := by
  split
  · next h => exact Int.tmod_eq_emod_of_nonneg h
  · rw [show n = -(-n) by omega, Int.neg_tmod, Int.tmod_eq_emod_of_nonneg (by omega)]; simp
theorem ret_int {k : IntKind} {a b : Int} (h : a = b) : Ending.returned (.int k a) = .returned (.int k b) := by rw [h]

theorem in_yes (n a b : Int) (h0 : a ≤ n) (h1 : n ≤ b) (w : World) :
    Calls Try.prog 41 #[.int .i64 n, .int .i64 a, .int .i64 b] w fun e w' => e = .returned (.bool true) ∧ w = w' := by
  go_enter Try.func41, Try.ntmps41
  go_wp2
  go_ret
  exact ⟨rfl, rfl⟩
theorem in_no (n a b : Int) (h : n < a ∨ b < n) (w : World) :
    Calls Try.prog 41 #[.int .i64 n, .int .i64 a, .int .i64 b] w fun e w' => e = .returned (.bool false) ∧ w = w' := by
  by_cases h0 : a ≤ n
  · have h1 : b < n := by omega
    go_enter Try.func41, Try.ntmps41
    go_wp2
    go_ret
    exact ⟨ret_bool (decide_eq_false (by omega)), rfl⟩
  · clear h
    go_enter Try.func41, Try.ntmps41
    go_wp2
    go_ret
    exact ⟨rfl, rfl⟩
end Go.Proofs.Ytpbppgaohfgpbaa
/- Contracts of impl's calculations with exact points. -/
namespace Go.Proofs.Ytpbppgaohfgpbaa
set_option maxRecDepth 20000
open Go.ChangeShapes Go.WideShapes Go.ChangeAt Go.RowKit
set_option linter.unusedVariables false
set_option linter.unusedSimpArgs false

theorem zero8 : (#[.int .i64 0, .int .i64 0, .int .i64 0, .int .i64 0, .int .i64 0, .int .i64 0, .int .i64 0, .int .i64 0] : Array Value) = vec 8 (fun _ => 0) := rfl

theorem zero24 : (#[.int .i64 0, .int .i64 0, .int .i64 0, .int .i64 0, .int .i64 0, .int .i64 0, .int .i64 0, .int .i64 0, .int .i64 0, .int .i64 0, .int .i64 0, .int .i64 0, .int .i64 0, .int .i64 0, .int .i64 0, .int .i64 0, .int .i64 0, .int .i64 0, .int .i64 0, .int .i64 0, .int .i64 0, .int .i64 0, .int .i64 0, .int .i64 0] : Array Value) = vec 24 nul := rfl
theorem key_i64 : Try.prog.plainKey 2 = true := by kernel_rfl
theorem key_int : Try.prog.plainKey 3 = true := by kernel_rfl
theorem cells_i64 : Try.prog.cellsOf 2 = 1 := by kernel_rfl
theorem cells_int : Try.prog.cellsOf 3 = 1 := by kernel_rfl
theorem some_i64 : (Try.prog.info? 2).isSome = true := by kernel_rfl
theorem some_int : (Try.prog.info? 3).isSome = true := by kernel_rfl
end Go.Proofs.Ytpbppgaohfgpbaa
