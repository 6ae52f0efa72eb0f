/-
  Gears: the mathematics (no program). Trains pair by pair in lowest terms, the first pair with a ratio, rings.
-/
import Derived.Test.YtbdhbkedeglagaaDoorRows
namespace Go.Proofs.YtbdhbkedeglagaaDoor
set_option maxRecDepth 20000
set_option linter.unusedVariables false
set_option linter.unusedSimpArgs false

def gearB (n : Int) : Bool := decide (6 ≤ n) && decide (n ≤ 240)
theorem gearB_true {n : Int} : gearB n = true ↔ 6 ≤ n ∧ n ≤ 240 := by simp [gearB]
theorem gearB_false {n : Int} : gearB n = false ↔ n < 6 ∨ 240 < n := by
  cases h : gearB n with
  | true => have := gearB_true.1 h; simp; omega
  | false =>
    have : ¬ (6 ≤ n ∧ n ≤ 240) := fun h2 => by rw [gearB_true.2 h2] at h; cases h
    simp; omega
def trainB (xs : List Int) : Bool := decide (2 ≤ xs.length) && decide (xs.length ≤ 10) && decide (xs.length % 2 = 0) && xs.all gearB
theorem trainB_true {xs : List Int} : trainB xs = true ↔ 2 ≤ xs.length ∧ xs.length ≤ 10 ∧ xs.length % 2 = 0 ∧ ∀ x ∈ xs, gearB x = true := by
  simp [trainB, and_assoc]

/-- A fraction in lowest terms. -/
def lowT (a b : Nat) : Nat × Nat := (a / Nat.gcd a b, b / Nat.gcd a b)
def inM (p : Nat × Nat) : Bool := decide (p.1 ≤ 1000000000) && decide (p.2 ≤ 1000000000)
/-- What is behind one pair more. -/
def stepR (s : Option (Nat × Nat)) (x y : Nat) : Option (Nat × Nat) := match s with
  | none => none
  | some p => if inM (lowT (p.1 * x) (p.2 * y)) then some (lowT (p.1 * x) (p.2 * y)) else none
def nth (xs : List Int) (k : Nat) : Nat := (xs.getD k 0).toNat
def ratN (xs : List Int) : Nat → Option (Nat × Nat)
  | 0 => some (1, 1)
  | k + 1 => stepR (ratN xs k) (nth xs (2 * k)) (nth xs (2 * k + 1))
theorem ratN_none {xs : List Int} {k : Nat} (h : ratN xs k = none) : ∀ {m : Nat}, k ≤ m → ratN xs m = none
  | 0, hk => by obtain rfl : k = 0 := by omega
                exact h
  | m + 1, hk => by
    by_cases e : k = m + 1
    · rw [← e]; exact h
    · simp [ratN, ratN_none h (show k ≤ m by omega), stepR]
def sgnT (k : Nat) : Int := if k % 2 = 1 then -1 else 1
theorem sgnT_zero : sgnT 0 = 1 := rfl
theorem sgnT_next (k : Nat) : sgnT (k + 1) = -sgnT k := by unfold sgnT; split <;> split <;> omega
theorem sgnT_is (k : Nat) : sgnT k = 1 ∨ sgnT k = -1 := by unfold sgnT; split <;> simp
/-- The ratio of a train. -/
def trainO (xs : List Int) : Option (Int × Nat) := if trainB xs then (ratN xs (xs.length / 2)).map fun p => (sgnT (xs.length / 2) * (p.1 : Int), p.2) else none

/-! Products. -/
def prodE (xs : List Int) : Nat → Nat
  | 0 => 1
  | k + 1 => prodE xs k * nth xs (2 * k)
def prodO (xs : List Int) : Nat → Nat
  | 0 => 1
  | k + 1 => prodO xs k * nth xs (2 * k + 1)
/-- What is known of a fraction in lowest terms. -/
structure Low (t b A B : Nat) : Prop where
  t1 : 1 ≤ t
  b1 : 1 ≤ b
  co : Nat.gcd t b = 1
  eq : t * B = b * A
theorem lowT_pos {a b : Nat} (ha : 1 ≤ a) (hb : 1 ≤ b) : 1 ≤ (lowT a b).1 ∧ 1 ≤ (lowT a b).2 ∧ Nat.gcd (lowT a b).1 (lowT a b).2 = 1 ∧ (lowT a b).1 * b = (lowT a b).2 * a ∧ (lowT a b).1 ≤ a ∧ (lowT a b).2 ≤ b := by
  have hg : 0 < Nat.gcd a b := Nat.gcd_pos_of_pos_left _ ha
  have h1 : (a / Nat.gcd a b) * Nat.gcd a b = a := Nat.div_mul_cancel (Nat.gcd_dvd_left a b)
  have h2 : (b / Nat.gcd a b) * Nat.gcd a b = b := Nat.div_mul_cancel (Nat.gcd_dvd_right a b)
  unfold lowT
  refine ⟨?_, ?_, Nat.gcd_div_gcd_div_gcd_of_pos_left ha, ?_, Nat.div_le_self _ _, Nat.div_le_self _ _⟩
  · exact Nat.div_pos (Nat.le_of_dvd ha (Nat.gcd_dvd_left a b)) hg
  · exact Nat.div_pos (Nat.le_of_dvd hb (Nat.gcd_dvd_right a b)) hg
  · simp only
    generalize Nat.gcd a b = g at *
    generalize a / g = p at *
    generalize b / g = q at *
    rw [← h1, ← h2]
    grind
theorem ratN_low {xs : List Int} : ∀ {k : Nat}, 2 * k ≤ xs.length → (∀ x ∈ xs, gearB x = true) → ∀ {t b : Nat}, ratN xs k = some (t, b) → Low t b (prodE xs k) (prodO xs k)
  | 0, _, _, t, b, h => by
    simp only [ratN, Option.some.injEq, Prod.mk.injEq] at h
    obtain ⟨rfl, rfl⟩ := h
    exact ⟨Nat.le_refl _, Nat.le_refl _, rfl, rfl⟩
  | k + 1, hk, hx, t, b, h => by
    have hn : ∀ j, j < xs.length → 1 ≤ nth xs j := fun j hj => by
      have := gearB_true.1 (hx _ (List.getElem_mem hj))
      unfold nth
      rw [List.getD_eq_getElem?_getD, List.getElem?_eq_getElem hj]
      simp only [Option.getD_some]; omega
    have hx1 := hn (2 * k) (by omega)
    have hy1 := hn (2 * k + 1) (by omega)
    unfold ratN stepR at h
    cases hr : ratN xs k with
    | none => rw [hr] at h; cases h
    | some p =>
      obtain ⟨t0, b0⟩ := p
      have ih := ratN_low (by omega) hx hr
      rw [hr] at h
      simp only at h
      split at h
      · simp only [Option.some.injEq] at h
        have h1 : 1 ≤ t0 * nth xs (2 * k) := Nat.mul_pos ih.t1 hx1
        have h2 : 1 ≤ b0 * nth xs (2 * k + 1) := Nat.mul_pos ih.b1 hy1
        have hl := lowT_pos h1 h2
        rw [h] at hl
        obtain ⟨l1, l2, l3, l4, -, -⟩ := hl
        refine ⟨l1, l2, l3, ?_⟩
        have e := ih.eq
        show t * (prodO xs k * nth xs (2 * k + 1)) = b * (prodE xs k * nth xs (2 * k))
        simp only at l4
        have hb0 : 0 < b0 := ih.b1
        refine Nat.eq_of_mul_eq_mul_left hb0 ?_
        generalize nth xs (2 * k) = x at *
        generalize nth xs (2 * k + 1) = y at *
        generalize prodE xs k = A at *
        generalize prodO xs k = B at *
        calc b0 * (t * (B * y)) = (t * (b0 * y)) * B := by grind
          _ = (b * (t0 * x)) * B := by rw [l4]
          _ = b * x * (t0 * B) := by grind
          _ = b * x * (b0 * A) := by rw [e]
          _ = b0 * (b * (A * x)) := by grind
      · cases h
theorem low_same {t b t' b' A B : Nat} (hA : 1 ≤ A) (hB : 1 ≤ B) (h : Low t b A B) (h' : Low t' b' B A) : t' = b ∧ b' = t := by
  have e1 := h.eq
  have e2 := h'.eq
  have h3 : t' * t = b' * b := by
    have : (t' * t) * (A * B) = (b' * b) * (A * B) := by
      calc (t' * t) * (A * B) = (t' * A) * (t * B) := by grind
        _ = (b' * B) * (b * A) := by rw [e1, e2]
        _ = (b' * b) * (A * B) := by grind
    exact Nat.eq_of_mul_eq_mul_right (Nat.mul_pos hA hB) this
  have c1 : Nat.Coprime t b := h.co
  have c2 : Nat.Coprime t' b' := h'.co
  have d1 : t ∣ b' := c1.dvd_of_dvd_mul_right ⟨t', by rw [← h3, Nat.mul_comm]⟩
  have d2 : b' ∣ t := c2.symm.dvd_of_dvd_mul_left ⟨b, by rw [h3]⟩
  have e : b' = t := Nat.dvd_antisymm d2 d1
  subst e
  refine ⟨?_, rfl⟩
  rw [Nat.mul_comm] at h3
  exact Nat.eq_of_mul_eq_mul_left h'.b1 h3

/-! Lists turned round. -/
theorem nth_rev {xs : List Int} {k : Nat} (h : k < xs.length) : nth xs.reverse k = nth xs (xs.length - 1 - k) := by
  unfold nth
  rw [List.getD_eq_getElem?_getD, List.getD_eq_getElem?_getD, List.getElem?_reverse h]
/-- The product of some numbers. -/
def prodF (f : Nat → Nat) : Nat → Nat
  | 0 => 1
  | k + 1 => prodF f k * f k
theorem prodF_first (f : Nat → Nat) : ∀ n, prodF f (n + 1) = f 0 * prodF (fun i => f (i + 1)) n
  | 0 => by simp [prodF]
  | n + 1 => by
    have := prodF_first f n
    show prodF f (n + 1) * f (n + 1) = f 0 * (prodF (fun i => f (i + 1)) n * f (n + 1))
    rw [this, Nat.mul_assoc]
theorem prodF_same {f g : Nat → Nat} : ∀ {n : Nat}, (∀ k, k < n → f k = g k) → prodF f n = prodF g n
  | 0, _ => rfl
  | n + 1, h => by simp only [prodF]; rw [prodF_same fun k hk => h k (by omega), h n (by omega)]
theorem prodF_rev (f : Nat → Nat) : ∀ n, prodF (fun i => f (n - 1 - i)) n = prodF f n
  | 0 => rfl
  | n + 1 => by
    rw [prodF_first]
    show f (n + 1 - 1 - 0) * prodF (fun i => f (n + 1 - 1 - (i + 1))) n = prodF f n * f n
    have h : prodF (fun i => f (n + 1 - 1 - (i + 1))) n = prodF (fun i => f (n - 1 - i)) n := prodF_same fun k hk => by
      rw [show n + 1 - 1 - (k + 1) = n - 1 - k by omega]
    rw [h, prodF_rev f n, Nat.mul_comm]
    rfl
theorem prodE_F (xs : List Int) : ∀ k, prodE xs k = prodF (fun i => nth xs (2 * i)) k
  | 0 => rfl
  | k + 1 => by simp only [prodE, prodF, prodE_F xs k]
theorem prodO_F (xs : List Int) : ∀ k, prodO xs k = prodF (fun i => nth xs (2 * i + 1)) k
  | 0 => rfl
  | k + 1 => by simp only [prodO, prodF, prodO_F xs k]
theorem prodE_rev {xs : List Int} {m : Nat} (h : xs.length = 2 * m) : prodE xs.reverse m = prodO xs m := by
  rw [prodE_F, prodO_F, ← prodF_rev (fun i => nth xs (2 * i + 1)) m]
  refine prodF_same fun k hk => ?_
  rw [nth_rev (by omega), h]
  show nth xs (2 * m - 1 - 2 * k) = nth xs (2 * (m - 1 - k) + 1)
  rw [show 2 * m - 1 - 2 * k = 2 * (m - 1 - k) + 1 by omega]
theorem prodO_rev {xs : List Int} {m : Nat} (h : xs.length = 2 * m) : prodO xs.reverse m = prodE xs m := by
  have := prodE_rev (xs := xs.reverse) (m := m) (by simp [h])
  rw [List.reverse_reverse] at this
  exact this.symm
theorem prodF_pos {f : Nat → Nat} : ∀ {n : Nat}, (∀ k, k < n → 1 ≤ f k) → 1 ≤ prodF f n
  | 0, _ => Nat.le_refl _
  | n + 1, h => Nat.mul_pos (prodF_pos fun k hk => h k (by omega)) (h n (by omega))
theorem nth_gear {xs : List Int} (hx : ∀ x ∈ xs, gearB x = true) {j : Nat} (hj : j < xs.length) : 6 ≤ nth xs j ∧ nth xs j ≤ 240 ∧ xs[j]? = some ((nth xs j : Nat) : Int) := by
  have := gearB_true.1 (hx _ (List.getElem_mem hj))
  unfold nth
  rw [List.getD_eq_getElem?_getD, List.getElem?_eq_getElem hj]
  simp only [Option.getD_some]
  refine ⟨by omega, by omega, by rw [Int.toNat_of_nonneg (by omega)]⟩
theorem ratN_most {xs : List Int} : ∀ {k : Nat} {p : Nat × Nat}, ratN xs k = some p → p.1 ≤ 1000000000 ∧ p.2 ≤ 1000000000
  | 0, p, h => by simp only [ratN, Option.some.injEq] at h; subst h; simp
  | k + 1, p, h => by
    unfold ratN stepR at h
    split at h
    · cases h
    · split at h
      · rename_i hm
        simp only [Option.some.injEq] at h
        rw [h] at hm
        simpa [inM] using hm
      · cases h
/-- What the law says of a train turned round. -/
theorem train_rev {xs : List Int} {t : Int} {b : Nat} (h : trainO xs = some (t, b)) : 1 ≤ b ∧ b ≤ 1000000000 ∧ 1 ≤ t.natAbs ∧ t.natAbs ≤ 1000000000 ∧ decide (t < 0) = decide (xs.length / 2 % 2 = 1) ∧ Nat.gcd t.natAbs b = 1 ∧
    ∀ {t' : Int} {b' : Nat}, trainO xs.reverse = some (t', b') → t'.natAbs = b ∧ b' = t.natAbs ∧ decide (t' < 0) = decide (xs.length / 2 % 2 = 1) := by
  unfold trainO at h
  split at h
  · rename_i hT
    obtain ⟨h2, h10, hev, hx⟩ := trainB_true.1 hT
    cases hr : ratN xs (xs.length / 2) with
    | none => rw [hr] at h; cases h
    | some p =>
      obtain ⟨t0, b0⟩ := p
      rw [hr] at h
      simp only [Option.map_some, Option.some.injEq, Prod.mk.injEq] at h
      obtain ⟨rfl, rfl⟩ := h
      have hl := ratN_low (by omega) hx hr
      have hm := ratN_most hr
      have hs : (sgnT (xs.length / 2) * (t0 : Int)).natAbs = t0 := by
        rcases sgnT_is (xs.length / 2) with e | e <;> rw [e] <;> omega
      have hd : ∀ z : Nat, 1 ≤ z → decide (sgnT (xs.length / 2) * (z : Int) < 0) = decide (xs.length / 2 % 2 = 1) := fun z hz => by
        unfold sgnT
        by_cases e : xs.length / 2 % 2 = 1
        · rw [if_pos e, decide_eq_true e, decide_eq_true (by omega)]
        · rw [if_neg e, decide_eq_false e, decide_eq_false (by omega)]
      have hm1 := hm.1
      have hm2 := hm.2
      have ht1 := hl.t1
      simp only at hm1 hm2
      refine ⟨hl.b1, hm2, by rw [hs]; exact hl.t1, by rw [hs]; exact hm1, hd t0 hl.t1, by rw [hs]; exact hl.co, fun {t' b'} h' => ?_⟩
      unfold trainO at h'
      split at h'
      · rw [List.length_reverse] at h'
        cases hr' : ratN xs.reverse (xs.length / 2) with
        | none => rw [hr'] at h'; cases h'
        | some p' =>
          obtain ⟨t1, b1⟩ := p'
          rw [hr'] at h'
          simp only [Option.map_some, Option.some.injEq, Prod.mk.injEq] at h'
          obtain ⟨rfl, rfl⟩ := h'
          have hl' := ratN_low (by rw [List.length_reverse]; omega) (fun x hx' => hx x (List.mem_reverse.1 hx')) hr'
          rw [prodE_rev (by omega), prodO_rev (by omega)] at hl'
          have pE : 1 ≤ prodE xs (xs.length / 2) := by
            rw [prodE_F]; exact prodF_pos fun k hk => by have := (nth_gear hx (j := 2 * k) (by omega)).1; omega
          have pO : 1 ≤ prodO xs (xs.length / 2) := by
            rw [prodO_F]; exact prodF_pos fun k hk => by have := (nth_gear hx (j := 2 * k + 1) (by omega)).1; omega
          obtain ⟨e1, e2⟩ := low_same pE pO hl hl'
          have hs' : (sgnT (xs.length / 2) * (t1 : Int)).natAbs = t1 := by
            rcases sgnT_is (xs.length / 2) with e | e <;> rw [e] <;> omega
          refine ⟨by rw [hs', e1], by rw [hs, e2], hd t1 hl'.t1⟩
      · cases h'
  · cases h
/-- No fewer turns than the bottom. -/
theorem turns_least {t : Int} {b n : Nat} (hg : Nat.gcd t.natAbs b = 1) (h1 : 1 ≤ n) (hn : n < b) : ¬ ((n : Int) * t) % (b : Int) = 0 := fun h => by
  have hd : (b : Int) ∣ (n : Int) * t := Int.dvd_of_emod_eq_zero h
  have hd2 : b ∣ n * t.natAbs := by
    have := Int.natAbs_dvd_natAbs.2 hd
    rwa [Int.natAbs_mul, Int.natAbs_natCast, Int.natAbs_natCast] at this
  have c : Nat.Coprime b t.natAbs := by rw [Nat.coprime_comm]; exact hg
  have := c.dvd_of_dvd_mul_right hd2
  have := Nat.le_of_dvd h1 this
  omega

/-! The first pair. -/
def fitP (t b n : Nat) : Bool := gearB ((n * t : Nat) : Int) && gearB ((n * b : Nat) : Int)
theorem fitP_true {t b n : Nat} : fitP t b n = true ↔ (6 ≤ n * t ∧ n * t ≤ 240) ∧ (6 ≤ n * b ∧ n * b ≤ 240) := by
  unfold fitP
  rw [Bool.and_eq_true, gearB_true, gearB_true]
  omega
/-- The first number that fits. -/
def frst (p : Nat → Bool) : Nat → Option Nat
  | 0 => none
  | n + 1 => match frst p n with
    | some k => some k
    | none => if p n then some n else none
theorem frst_no {p : Nat → Bool} : ∀ {n : Nat}, (∀ m, m < n → p m = false) → frst p n = none
  | 0, _ => rfl
  | n + 1, h => by
    have e : frst p n = none := frst_no fun m hm => h m (by omega)
    simp [frst, e, h n (by omega)]
theorem frst_yes {p : Nat → Bool} {k : Nat} (h : ∀ m, m < k → p m = false) (hk : p k = true) : ∀ {n : Nat}, k < n → frst p n = some k
  | 0, hn => by omega
  | n + 1, hn => by
    by_cases e : k = n
    · subst e
      have e : frst p k = none := frst_no h
      simp [frst, e, hk]
    · have e2 : frst p n = some k := frst_yes h hk (by omega)
      simp [frst, e2]
theorem frst_in {p : Nat → Bool} {k : Nat} : ∀ {n : Nat}, frst p n = some k → p k = true
  | 0, h => by cases h
  | n + 1, h => by
    unfold frst at h
    cases h1 : frst p n with
    | some j => rw [h1] at h; simp only [Option.some.injEq] at h; subst h; exact frst_in h1
    | none =>
      rw [h1] at h
      simp only at h
      split at h
      · rename_i hp
        simp only [Option.some.injEq] at h
        subst h; exact hp
      · cases h
/-- The first pair with a ratio. -/
def pairO (top bottom : Nat) : Option (List Int) := (frst (fitP (lowT top bottom).1 (lowT top bottom).2) 241).map fun n => [((n * (lowT top bottom).1 : Nat) : Int), ((n * (lowT top bottom).2 : Nat) : Int)]
def findB (n : Int) : Bool := decide (1 ≤ n) && decide (n ≤ 1000)
theorem findB_true {n : Int} : findB n = true ↔ 1 ≤ n ∧ n ≤ 1000 := by simp [findB]
def findO (top bottom : Int) : Option (List Int) := if findB top && findB bottom then pairO top.toNat bottom.toNat else none
theorem fit_small {t b n : Nat} (ht : 1 ≤ t) (h : fitP t b n = true) : n < 241 := by
  have h1 := (fitP_true.1 h).1.2
  have : n * 1 ≤ n * t := Nat.mul_le_mul_left _ ht
  omega
theorem fit_zero (t b : Nat) : fitP t b 0 = false := by
  cases h : fitP t b 0 with
  | false => rfl
  | true => have := (fitP_true.1 h).1.1; omega
theorem pairO_none {top bottom N : Nat} (h : ∀ m, m < N → fitP (lowT top bottom).1 (lowT top bottom).2 m = false) (hN : ∀ m, N ≤ m → fitP (lowT top bottom).1 (lowT top bottom).2 m = false) : pairO top bottom = none := by
  unfold pairO
  rw [frst_no fun m _ => by
    by_cases e : m < N
    · exact h m e
    · exact hN m (by omega)]
  rfl
theorem pairO_some {top bottom n : Nat} (ht : 1 ≤ top) (hb : 1 ≤ bottom) (h : ∀ m, m < n → fitP (lowT top bottom).1 (lowT top bottom).2 m = false) (hn : fitP (lowT top bottom).1 (lowT top bottom).2 n = true) :
    pairO top bottom = some [((n * (lowT top bottom).1 : Nat) : Int), ((n * (lowT top bottom).2 : Nat) : Int)] := by
  unfold pairO
  rw [frst_yes h hn (fit_small (lowT_pos ht hb).1 hn)]
  rfl
/-- No pair behind one with too many teeth. -/
theorem fit_beyond {t b n m : Nat} (h : 240 < n * t ∨ 240 < n * b) (hm : n ≤ m) : fitP t b m = false := by
  cases e : fitP t b m with
  | false => rfl
  | true =>
    obtain ⟨⟨-, h1⟩, -, h2⟩ := fitP_true.1 e
    have h3 : n * t ≤ m * t := Nat.mul_le_mul_right _ hm
    have h4 : n * b ≤ m * b := Nat.mul_le_mul_right _ hm
    omega
theorem low_parts (top bottom : Nat) : top = (lowT top bottom).1 * Nat.gcd top bottom ∧ bottom = (lowT top bottom).2 * Nat.gcd top bottom :=
  ⟨(Nat.div_mul_cancel (Nat.gcd_dvd_left _ _)).symm, (Nat.div_mul_cancel (Nat.gcd_dvd_right _ _)).symm⟩
/-- Which first gears have a second one. -/
theorem gear_has {top bottom a : Nat} (ht : 1 ≤ top) (hb : 1 ≤ bottom) (h : a * bottom % top = 0) : ∃ n, a = n * (lowT top bottom).1 ∧ a * bottom / top = n * (lowT top bottom).2 := by
  obtain ⟨l1, l2, l3, -, -, -⟩ := lowT_pos ht hb
  obtain ⟨e1, e2⟩ := low_parts top bottom
  have hg : 0 < Nat.gcd top bottom := Nat.gcd_pos_of_pos_left _ ht
  generalize (lowT top bottom).1 = t at *
  generalize (lowT top bottom).2 = b at *
  generalize Nat.gcd top bottom = g at *
  subst e1 e2
  have hd : t * g ∣ a * (b * g) := Nat.dvd_of_mod_eq_zero h
  have hd2 : t ∣ a * b := by
    obtain ⟨c, hc⟩ := hd
    refine ⟨c, Nat.eq_of_mul_eq_mul_right hg ?_⟩
    calc a * b * g = a * (b * g) := by rw [Nat.mul_assoc]
      _ = t * g * c := hc
      _ = t * c * g := by rw [Nat.mul_right_comm]
  have c : Nat.Coprime t b := l3
  obtain ⟨n, hn⟩ := c.dvd_of_dvd_mul_right hd2
  refine ⟨n, by rw [hn, Nat.mul_comm], ?_⟩
  subst hn
  rw [show t * n * (b * g) = (n * b) * (t * g) by grind]
  exact Nat.mul_div_cancel _ ht
theorem has_gear {top bottom n : Nat} (ht : 1 ≤ top) (hb : 1 ≤ bottom) : (n * (lowT top bottom).1) * bottom % top = 0 := by
  obtain ⟨e1, e2⟩ := low_parts top bottom
  generalize (lowT top bottom).1 = t at *
  generalize (lowT top bottom).2 = b at *
  generalize Nat.gcd top bottom = g at *
  subst e1 e2
  rw [show n * t * (b * g) = (t * g) * (n * b) by grind]
  exact Nat.mul_mod_right _ _
theorem lt_mul {m n t : Nat} (ht : 1 ≤ t) : m * t < n * t ↔ m < n := Nat.mul_lt_mul_right ht
/-- What the law says of a pair that was found. -/
theorem pair_ratio {top bottom : Nat} (ht : 1 ≤ top) (hb : 1 ≤ bottom) (ht2 : top ≤ 1000) (hb2 : bottom ≤ 1000) {xs : List Int} (h : pairO top bottom = some xs) :
    xs.length = 2 ∧ ∃ (a b : Nat), xs = [(a : Int), (b : Int)] ∧ 6 ≤ a ∧ a ≤ 240 ∧ 6 ≤ b ∧ b ≤ 240 ∧ ∃ t c : Nat, trainO xs = some (-(t : Int), c) ∧ t * bottom = c * top ∧ t ≤ 240 ∧ c ≤ 240 := by
  unfold pairO at h
  cases hf : frst (fitP (lowT top bottom).1 (lowT top bottom).2) 241 with
  | none => rw [hf] at h; cases h
  | some n =>
    rw [hf] at h
    simp only [Option.map_some, Option.some.injEq] at h
    obtain ⟨⟨f1, f2⟩, f3, f4⟩ := fitP_true.1 (frst_in hf)
    have hl := lowT_pos ht hb
    subst h
    refine ⟨rfl, _, _, rfl, f1, f2, f3, f4, ?_⟩
    generalize ha : n * (lowT top bottom).1 = a at *
    generalize hbb : n * (lowT top bottom).2 = b at *
    have hab := lowT_pos (show 1 ≤ a by omega) (show 1 ≤ b by omega)
    have hx : ∀ x ∈ [(a : Int), (b : Int)], gearB x = true := fun x hx => by
      simp only [List.mem_cons, List.not_mem_nil, or_false] at hx
      rcases hx with rfl | rfl
      · exact gearB_true.2 (by omega)
      · exact gearB_true.2 (by omega)
    have hT : trainB [(a : Int), (b : Int)] = true := trainB_true.2 ⟨by simp, by simp, by simp, hx⟩
    have e1 : nth [(a : Int), (b : Int)] 0 = a := by simp [nth]
    have e2 : nth [(a : Int), (b : Int)] 1 = b := by simp [nth]
    have hm : inM (lowT a b) = true := by
      unfold inM
      rw [Bool.and_eq_true]
      exact ⟨decide_eq_true (by omega), decide_eq_true (by omega)⟩
    refine ⟨(lowT a b).1, (lowT a b).2, ?_, ?_, by omega, by omega⟩
    · unfold trainO
      rw [hT, if_pos rfl]
      have : ratN [(a : Int), (b : Int)] 1 = some (lowT a b) := by
        simp only [ratN, stepR]
        rw [e1, e2, Nat.one_mul, Nat.one_mul, hm, if_pos rfl]
      have el : [(a : Int), (b : Int)].length / 2 = 1 := by simp
      rw [el, this]
      simp only [Option.map_some, Option.some.injEq, Prod.mk.injEq, and_true]
      rw [show sgnT 1 = -1 from rfl]
      omega
    · have h1 := hl.2.2.2.1
      have h2 := hab.2.2.2.1
      generalize (lowT a b).1 = p at *
      generalize (lowT a b).2 = q at *
      generalize (lowT top bottom).1 = t at *
      generalize (lowT top bottom).2 = c at *
      have hn : 0 < n := by
        rcases Nat.eq_zero_or_pos n with rfl | h
        · omega
        · exact h
      have hc0 : 0 < c := by omega
      have ht0 : 0 < t := by omega
      -- p * b = q * a, t * bottom = c * top, a = n t, b = n c
      subst ha hbb
      have h3 : p * c = q * t := Nat.eq_of_mul_eq_mul_left hn (by calc n * (p * c) = p * (n * c) := by grind
            _ = q * (n * t) := h2
            _ = n * (q * t) := by grind)
      refine Nat.eq_of_mul_eq_mul_left (Nat.mul_pos hc0 ht0) ?_
      calc c * t * (p * bottom) = (p * c) * (t * bottom) := by grind
        _ = (q * t) * (c * top) := by rw [h3, h1]
        _ = c * t * (q * top) := by grind
end Go.Proofs.YtbdhbkedeglagaaDoor
