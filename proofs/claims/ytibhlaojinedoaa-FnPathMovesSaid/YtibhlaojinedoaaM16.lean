/-
  Rows of exact points: the mathematics (no program). Sums over indexes, sums asked on the way, transforms and what they lead back to, circular products.
  Rows: what each function of chapter 6 answers, and what its laws then say (no program).
  impl: rows made of lists of points, and told.
  The model's lengths of rows.
-/
import Derived.Test.YtibhlaojinedoaaM13
import Derived.Test.YtibhlaojinedoaaM09
import Derived.Test.YtibhlaojinedoaaM15
import Derived.Test.YtibhlaojinedoaaM14
/- Rows of exact points: the mathematics (no program). Sums over indexes, sums asked on the way, transforms and what they lead back to, circular products. -/
namespace Go.Proofs.Ytibhlaojinedoaa
set_option maxRecDepth 20000
set_option linter.unusedVariables false
set_option linter.unusedSimpArgs false

/-! Sums over the indexes below n. -/
def sig (f : Nat → V) : Nat → V
  | 0 => V.zero
  | n + 1 => V.add (sig f n) (f n)
theorem sig_same {f g : Nat → V} : ∀ n, (∀ k, k < n → f k = g k) → sig f n = sig g n
  | 0, _ => rfl
  | n + 1, h => by
    show V.add (sig f n) (f n) = V.add (sig g n) (g n)
    rw [sig_same n fun k hk => h k (by omega), h n (by omega)]
theorem sig_add (f g : Nat → V) : ∀ n, sig (fun k => V.add (f k) (g k)) n = V.add (sig f n) (sig g n)
  | 0 => (V.add_zero _).symm
  | n + 1 => by
    show V.add (sig (fun k => V.add (f k) (g k)) n) (V.add (f n) (g n)) = V.add (V.add (sig f n) (f n)) (V.add (sig g n) (g n))
    rw [sig_add f g n, V.four]
theorem sig_zero : ∀ n, sig (fun _ => V.zero) n = V.zero
  | 0 => rfl
  | n + 1 => by
    show V.add (sig (fun _ => V.zero) n) V.zero = V.zero
    rw [sig_zero n, V.add_zero]
theorem sig_swap (f : Nat → Nat → V) (n : Nat) : ∀ m, sig (fun i => sig (fun j => f i j) n) m = sig (fun j => sig (fun i => f i j) m) n
  | 0 => (sig_zero n).symm
  | m + 1 => by
    show V.add (sig (fun i => sig (fun j => f i j) n) m) (sig (fun j => f m j) n) = sig (fun j => V.add (sig (fun i => f i j) m) (f m j)) n
    rw [sig_swap f n m, sig_add]
theorem sig_tV (t : Nat) (f : Nat → V) : ∀ n, tV t (sig f n) = sig (fun k => tV t (f k)) n
  | 0 => tV_zero t
  | n + 1 => by
    show tV t (V.add (sig f n) (f n)) = V.add (sig (fun k => tV t (f k)) n) (tV t (f n))
    rw [tV_add, sig_tV t f n]
theorem sig_prV (a : V) (f : Nat → V) : ∀ n, prV a (sig f n) = sig (fun k => prV a (f k)) n
  | 0 => by rw [prV_comm]; exact prV_zero a
  | n + 1 => by
    show prV a (V.add (sig f n) (f n)) = V.add (sig (fun k => prV a (f k)) n) (prV a (f n))
    rw [prV_comm, prV_add, prV_comm _ a, prV_comm _ a, sig_prV a f n]
theorem sig_head (f : Nat → V) : ∀ n, sig f (n + 1) = V.add (f 0) (sig (fun k => f (k + 1)) n)
  | 0 => by show V.add V.zero (f 0) = V.add (f 0) V.zero; rw [V.add_comm]
  | n + 1 => by
    show V.add (sig f (n + 1)) (f (n + 1)) = V.add (f 0) (V.add (sig (fun k => f (k + 1)) n) (f (n + 1)))
    rw [sig_head f n, V.add_assoc]
theorem sig_next {f : Nat → V} {n : Nat} (h : f n = f 0) : sig (fun k => f (k + 1)) n = sig f n := by
  have h1 := sig_head f n
  have h2 : sig f (n + 1) = V.add (sig f n) (f n) := rfl
  rw [h2, h, V.add_comm (sig f n)] at h1
  exact (V.cancel h1).symm
/-- Of what comes back each n, the sum over n is the same wherever it begins. -/
theorem sig_rot {f : Nat → V} {n : Nat} (h : ∀ k, f (k + n) = f k) : ∀ m, sig (fun k => f (k + m)) n = sig f n
  | 0 => rfl
  | m + 1 => by
    have := sig_next (f := fun k => f (k + m)) (n := n) (by show f (n + m) = f (0 + m); rw [Nat.add_comm n m, h, Nat.zero_add])
    rw [← sig_rot h m, ← this]
    exact sig_same n fun k _ => by show f (k + (m + 1)) = f (k + 1 + m); rw [show k + (m + 1) = k + 1 + m by omega]
theorem sig_flip (f : Nat → V) : ∀ n, sig (fun k => f (n - 1 - k)) n = sig f n
  | 0 => rfl
  | n + 1 => by
    rw [sig_head]
    show V.add (f (n + 1 - 1 - 0)) (sig (fun k => f (n + 1 - 1 - (k + 1))) n) = V.add (sig f n) (f n)
    rw [← sig_flip f n, V.add_comm]
    congr 1
    exact sig_same n fun k hk => by rw [show n + 1 - 1 - (k + 1) = n - 1 - k by omega]
theorem sig_only (f : Nat → V) (i : Nat) : ∀ n, (∀ k, k < n → k ≠ i → f k = V.zero) → sig f n = if i < n then f i else V.zero
  | 0, _ => by rw [if_neg (by omega)]; rfl
  | n + 1, h => by
    show V.add (sig f n) (f n) = _
    rw [sig_only f i n fun k hk hn => h k (by omega) hn]
    by_cases h1 : i < n
    · rw [if_pos h1, if_pos (by omega), h n (by omega) (by omega), V.add_zero]
    · rw [if_neg h1, V.zero_add]
      by_cases h2 : i = n
      · rw [if_pos (by omega), h2]
      · rw [if_neg (by omega), h n (by omega) (by omega)]
/-- As often as told. -/
def mulV (n : Int) (a : V) : V := fun j => n * a j
theorem mulV_dn (n : Int) (a : V) : dn (scl n a.up) = mulV n a := by
  funext j
  show n * a.up j.1 = n * a j
  rw [up_at a j.1 j.2]
theorem sig_const (a : V) : ∀ n, sig (fun _ => a) n = mulV n a
  | 0 => by funext j; show (0 : Int) = 0 * a j; omega
  | n + 1 => by
    show V.add (sig (fun _ => a) n) a = mulV ((n + 1 : Nat) : Int) a
    rw [sig_const a n]
    funext j
    show (n : Int) * a j + a j = ((n + 1 : Nat) : Int) * a j
    rw [Int.natCast_add, Int.add_mul]; omega

/-! No turned sum of all is left but of those that are not turned. -/
theorem half_zero {a : V} (h : tV 12 a = a) : a = V.zero := by
  have e : Eight (stps 12 a.up) a.up := same_dn (by rw [dn_up]; exact h)
  refine V.ext ?_
  rw [zero_up]
  have h0 := e 0 (by omega); have h1 := e 1 (by omega); have h2 := e 2 (by omega); have h3 := e 3 (by omega); have h4 := e 4 (by omega); have h5 := e 5 (by omega); have h6 := e 6 (by omega); have h7 := e 7 (by omega)
  simp [stps, stp] at h0 h1 h2 h3 h4 h5 h6 h7
  refine eight_cases ?_ ?_ ?_ ?_ ?_ ?_ ?_ ?_ <;> simp only [nul] <;> omega
theorem third_zero {a : V} (h : tV 8 a = a) : a = V.zero := by
  have e : Eight (stps 8 a.up) a.up := same_dn (by rw [dn_up]; exact h)
  refine V.ext ?_
  rw [zero_up]
  have h0 := e 0 (by omega); have h1 := e 1 (by omega); have h2 := e 2 (by omega); have h3 := e 3 (by omega); have h4 := e 4 (by omega); have h5 := e 5 (by omega); have h6 := e 6 (by omega); have h7 := e 7 (by omega)
  simp [stps, stp] at h0 h1 h2 h3 h4 h5 h6 h7
  refine eight_cases ?_ ?_ ?_ ?_ ?_ ?_ ?_ ?_ <;> simp only [nul] <;> omega
theorem tV_again {a : V} {e : Nat} (h : tV e a = a) : ∀ m, tV (e * m) a = a
  | 0 => tV_none a
  | m + 1 => by rw [Nat.mul_succ, Nat.add_comm, ← tV_more, tV_again h m, h]
theorem reach : ∀ e : Fin 24, e.1 ≠ 0 → ∃ m : Fin 24, e.1 * m.1 % 24 = 12 ∨ e.1 * m.1 % 24 = 8 := by decide
theorem turned_zero {a : V} {e : Nat} (he : e % 24 ≠ 0) (h : tV e a = a) : a = V.zero := by
  have h' : tV (e % 24) a = a := by rw [tV_mod]; exact h
  obtain ⟨m, hm⟩ := reach ⟨e % 24, Nat.mod_lt _ (by omega)⟩ he
  have h2 := tV_again h' m.1
  rcases hm with hm | hm
  · exact half_zero (by rw [← hm, tV_mod]; exact h2)
  · exact third_zero (by rw [← hm, tV_mod]; exact h2)
theorem sig_turns (a : V) {e n : Nat} (hn : e * n % 24 = 0) (he : e % 24 ≠ 0) : sig (fun j => tV (e * j) a) n = V.zero := by
  refine turned_zero he ?_
  rw [sig_tV]
  have h1 : sig (fun j => tV e (tV (e * j) a)) n = sig (fun j => (fun i => tV (e * i) a) (j + 1)) n := sig_same n fun j _ => by
    show tV e (tV (e * j) a) = tV (e * (j + 1)) a
    rw [tV_more, Nat.mul_succ, Nat.add_comm]
  rw [h1]
  refine sig_next (f := fun i => tV (e * i) a) ?_
  show tV (e * n) a = tV (e * 0) a
  exact tV_same a (by rw [hn, Nat.mul_zero])

/-! Transforms. -/
def rowLen (n : Nat) : Bool := decide (1 ≤ n) && decide (24 % n = 0)
theorem rowLen_in {n : Nat} (h : rowLen n = true) : 1 ≤ n ∧ 24 % n = 0 ∧ n ≤ 24 := by
  unfold rowLen at h
  simp only [Bool.and_eq_true, decide_eq_true_eq] at h
  refine ⟨h.1, h.2, ?_⟩
  rcases Nat.lt_or_ge 24 n with h3 | h3
  · rw [Nat.mod_eq_of_lt h3] at h; omega
  · exact h3
theorem rowLen_part {n : Nat} (h : rowLen n = true) : 24 / n * n = 24 := by
  have := rowLen_in h
  have := Nat.div_add_mod 24 n
  rw [Nat.mul_comm]; omega
/-- The point k of a list. -/
def at' (xs : List V) (k : Nat) : V := (xs[k]?).getD V.zero
theorem at_some {xs : List V} {k : Nat} {a : V} (h : xs[k]? = some a) : at' xs k = a := by unfold at'; rw [h]; rfl
/-- The sum of a row turned by j times k parts. -/
def tr (p n : Nat) (x : Nat → V) (j : Nat) : V := sig (fun k => tV (p * (j * k)) (x k)) n
/-- The index i turned with q, the index k with p: what comes together. -/
theorem tr_tr (p q n : Nat) (x : Nat → V) (i : Nat) : tr q n (tr p n x) i = sig (fun k => sig (fun j => tV ((q * i + p * k) * j) (x k)) n) n := by
  unfold tr
  rw [← sig_swap]
  refine sig_same n fun j _ => ?_
  rw [sig_tV]
  refine sig_same n fun k _ => ?_
  rw [tV_more]
  congr 1
  rw [Nat.add_mul, Nat.mul_assoc q, Nat.mul_assoc p, Nat.mul_comm k j]
/-- Where both ways cancel, a row comes back n times. -/
theorem tr_back {p q n : Nat} (hn : p * n % 24 = 0) (hpq : (p + q) % 24 = 0) (hd : ∀ i k, i < n → k < n → i ≠ k → (q * i + p * k) % 24 ≠ 0) (x : Nat → V) {i : Nat} (hi : i < n) : tr q n (tr p n x) i = mulV n (x i) := by
  have hq : q * n % 24 = 0 := by
    have h1 : (p * n + q * n) % 24 = 0 := by rw [← Nat.add_mul, Nat.mul_mod, hpq]; simp
    omega
  rw [tr_tr, sig_only _ i n]
  · rw [if_pos hi, ← sig_const]
    refine sig_same n fun j _ => ?_
    refine (tV_same (n := 0) (x i) ?_).trans (tV_none _)
    rw [← Nat.add_mul, Nat.add_comm q p, Nat.mul_assoc, Nat.mul_mod, hpq]; simp
  · intro k hk hne
    refine sig_turns (x k) ?_ (hd i k hi hk (Ne.symm hne))
    rw [Nat.add_mul, Nat.mul_right_comm q i n, Nat.mul_right_comm p k n, Nat.add_mod, Nat.mul_mod (q * n), hq, Nat.mul_mod (p * n), hn]; simp
/-- The steps of a row of n points: forward, and back. -/
def fw (n : Nat) : Nat := 24 / n
def bw (n : Nat) : Nat := 24 - 24 / n
theorem fw_round {n : Nat} (h : rowLen n = true) : fw n * n % 24 = 0 := by unfold fw; rw [rowLen_part h]
theorem fw_le {n : Nat} : fw n ≤ 24 := Nat.div_le_self 24 n
theorem bw_round {n : Nat} (h : rowLen n = true) : bw n * n % 24 = 0 := by
  have h1 := rowLen_part h
  have h2 : fw n ≤ 24 := fw_le
  unfold bw
  rw [Nat.sub_mul, h1]
  omega
theorem apart {n : Nat} (h : rowLen n = true) {i k : Nat} (hi : i < n) (hk : k < n) (hne : i ≠ k) : (fw n * i + bw n * k) % 24 ≠ 0 ∧ (bw n * i + fw n * k) % 24 ≠ 0 := by
  have key : ∀ n : Fin 25, rowLen n.1 = true → ∀ i : Fin 24, i.1 < n.1 → ∀ k : Fin 24, k.1 < n.1 → i.1 ≠ k.1 → (fw n.1 * i.1 + bw n.1 * k.1) % 24 ≠ 0 ∧ (bw n.1 * i.1 + fw n.1 * k.1) % 24 ≠ 0 := by decide +kernel
  have hl := (rowLen_in h).2.2
  exact key ⟨n, by omega⟩ h ⟨i, by omega⟩ hi ⟨k, by omega⟩ hk hne
theorem fb (n : Nat) : (fw n + bw n) % 24 = 0 := by
  have h2 : fw n ≤ 24 := fw_le
  show (24 / n + (24 - 24 / n)) % 24 = 0
  unfold fw at h2
  omega
theorem tr_forth {n : Nat} (h : rowLen n = true) (x : Nat → V) {i : Nat} (hi : i < n) : tr (fw n) n (tr (bw n) n x) i = mulV n (x i) :=
  tr_back (bw_round h) (by rw [Nat.add_comm]; exact fb n) (fun i k hi hk hne => (apart h hi hk hne).1) x hi
theorem tr_home {n : Nat} (h : rowLen n = true) (x : Nat → V) {i : Nat} (hi : i < n) : tr (bw n) n (tr (fw n) n x) i = mulV n (x i) :=
  tr_back (fw_round h) (fb n) (fun i k hi hk hne => (apart h hi hk hne).2) x hi
theorem tr_same {p n : Nat} {x y : Nat → V} (h : ∀ k, k < n → x k = y k) (j : Nat) : tr p n x j = tr p n y j := sig_same n fun k hk => by rw [h k hk]

/-! Shifted rows. -/
theorem mod_add_self (k n m : Nat) : (k + n + m) % n = (k + m) % n := by rw [show k + n + m = k + m + n by omega, Nat.add_mod_right]
/-- A shifted row's transform is turned. -/
theorem tr_shift {p n : Nat} (hn : p * n % 24 = 0) (h1 : 1 ≤ n) (x : Nat → V) (m j : Nat) : tV (p * (j * m)) (tr p n (fun k => x ((k + m) % n)) j) = tr p n x j := by
  unfold tr
  rw [sig_tV]
  have e : sig (fun k => tV (p * (j * m)) (tV (p * (j * k)) (x ((k + m) % n)))) n = sig (fun k => (fun i => tV (p * (j * i)) (x (i % n))) (k + m)) n := sig_same n fun k _ => by
    show tV _ (tV _ _) = tV (p * (j * (k + m))) (x ((k + m) % n))
    rw [tV_more]
    congr 1
    rw [← Nat.mul_add, ← Nat.mul_add, Nat.add_comm m k]
  rw [e, sig_rot (f := fun i => tV (p * (j * i)) (x (i % n)))]
  · exact sig_same n fun k hk => by show tV _ (x (k % n)) = _; rw [Nat.mod_eq_of_lt hk]
  · intro k
    show tV (p * (j * (k + n))) (x ((k + n) % n)) = tV (p * (j * k)) (x (k % n))
    rw [Nat.add_mod_right]
    refine tV_same _ ?_
    rw [show p * (j * (k + n)) = p * (j * k) + (p * n) * j by rw [Nat.mul_add, Nat.mul_add, Nat.mul_left_comm p j n, Nat.mul_comm (p * n) j], Nat.add_mod, Nat.mul_mod (p * n), hn]; simp

/-! Circular products. -/
/-- The index that k - i stands for. -/
def cix (n k i : Nat) : Nat := (k + n - i) % n
def circ (n : Nat) (a b : Nat → V) (k : Nat) : V := sig (fun i => prV (a i) (b (cix n k i))) n
theorem circ_comm {n : Nat} (h1 : 1 ≤ n) (a b : Nat → V) {k : Nat} (hk : k < n) : circ n a b k = circ n b a k := by
  let G : Nat → V := fun m => prV (a (m % n)) (b (cix n k (m % n)))
  have hG : ∀ m, G (m + n) = G m := fun m => by show prV (a ((m + n) % n)) (b (cix n k ((m + n) % n))) = _; rw [Nat.add_mod_right]
  have e1 : circ n a b k = sig G n := sig_same n fun i hi => by show _ = prV (a (i % n)) (b (cix n k (i % n))); rw [Nat.mod_eq_of_lt hi]
  have e2 : circ n b a k = sig (fun i => G (k + n - i)) n := sig_same n fun i hi => by
    show prV (b i) (a (cix n k i)) = prV (a ((k + n - i) % n)) (b (cix n k ((k + n - i) % n)))
    rw [prV_comm]
    congr 2
    unfold cix
    by_cases hle : i ≤ k
    · have e : (k + n - i) % n = k - i := by
        rw [show k + n - i = k - i + n by omega, Nat.add_mod_right, Nat.mod_eq_of_lt (by omega)]
      rw [e, show k + n - (k - i) = i + n by omega, Nat.add_mod_right, Nat.mod_eq_of_lt hi]
    · have e : (k + n - i) % n = k + n - i := Nat.mod_eq_of_lt (by omega)
      rw [e, show k + n - (k + n - i) = i by omega, Nat.mod_eq_of_lt hi]
  have e3 : sig (fun i => G (k + n - i)) n = sig (fun i => (fun m => G (m + (k + 1))) i) n := by
    rw [← sig_flip]
    exact sig_same n fun i hi => by show G (k + n - (n - 1 - i)) = G (i + (k + 1)); rw [show k + n - (n - 1 - i) = i + (k + 1) by omega]
  rw [e1, e2, e3]
  exact (sig_rot hG (k + 1)).symm
/-- The transform of a circular product is the product of the transforms. -/
theorem tr_circ {p n : Nat} (hn : p * n % 24 = 0) (h1 : 1 ≤ n) (a b : Nat → V) (j : Nat) : tr p n (circ n a b) j = prV (tr p n a j) (tr p n b j) := by
  have hB : ∀ i, i < n → sig (fun k => tV (p * (j * k)) (b (cix n k i))) n = tV (p * (j * i)) (tr p n b j) := fun i hi => by
    let H : Nat → V := fun k => tV (p * (j * k)) (b ((k + n - i) % n))
    have hH : ∀ k, H (k + n) = H k := fun k => by
      show tV (p * (j * (k + n))) (b ((k + n + n - i) % n)) = tV (p * (j * k)) (b ((k + n - i) % n))
      rw [show k + n + n - i = k + n - i + n by omega, Nat.add_mod_right]
      refine tV_same _ ?_
      rw [show p * (j * (k + n)) = p * (j * k) + (p * n) * j by rw [Nat.mul_add, Nat.mul_add, Nat.mul_left_comm p j n, Nat.mul_comm (p * n) j], Nat.add_mod, Nat.mul_mod (p * n), hn]; simp
    have e : sig H n = sig (fun k => H (k + i)) n := (sig_rot hH i).symm
    show sig H n = _
    rw [e]
    unfold tr
    rw [sig_tV]
    refine sig_same n fun k hk => ?_
    show tV (p * (j * (k + i))) (b ((k + i + n - i) % n)) = _
    rw [show k + i + n - i = k + n by omega, Nat.add_mod_right, Nat.mod_eq_of_lt hk, tV_more]
    congr 1
    rw [← Nat.mul_add, ← Nat.mul_add, Nat.add_comm i k]
  have e1 : tr p n (circ n a b) j = sig (fun i => prV (a i) (sig (fun k => tV (p * (j * k)) (b (cix n k i))) n)) n := by
    unfold tr circ
    have : (fun i => prV (a i) (sig (fun k => tV (p * (j * k)) (b (cix n k i))) n)) = fun i => sig (fun k => tV (p * (j * k)) (prV (a i) (b (cix n k i)))) n := by
      funext i
      rw [sig_prV]
      exact sig_same n fun k _ => prV_turn _ _ _
    rw [this, ← sig_swap]
    exact sig_same n fun k _ => sig_tV _ _ _
  rw [e1]
  have e2 : sig (fun i => prV (a i) (sig (fun k => tV (p * (j * k)) (b (cix n k i))) n)) n = sig (fun i => prV (tr p n b j) (tV (p * (j * i)) (a i))) n := sig_same n fun i hi => by
    rw [hB i hi, prV_turn, prV_comm, ← prV_turn]
  rw [e2, ← sig_prV, prV_comm]
  rfl

/-! Answers for each index, where each has one; sums asked on the way. -/
section
variable {α : Type}
def coll (f : Nat → Option α) : Nat → Option (List α)
  | 0 => some []
  | n + 1 => (coll f n).bind fun l => (f n).map fun a => l ++ [a]
theorem coll_step {f : Nat → Option α} {n : Nat} {l : List α} (h : coll f n = some l) : coll f (n + 1) = (f n).map fun a => l ++ [a] := by
  show (coll f n).bind _ = _
  rw [h]; rfl
theorem coll_len {f : Nat → Option α} : ∀ {n : Nat} {l : List α}, coll f n = some l → l.length = n
  | 0, l, h => by simp only [coll, Option.some.injEq] at h; rw [← h]; rfl
  | n + 1, l, h => by
    simp only [coll, Option.bind_eq_some_iff, Option.map_eq_some_iff] at h
    obtain ⟨l', h1, a, _, rfl⟩ := h
    rw [List.length_append, coll_len h1]; rfl
theorem coll_at {f : Nat → Option α} : ∀ {n : Nat} {l : List α}, coll f n = some l → ∀ k, k < n → f k = l[k]?
  | 0, l, _, k, hk => by omega
  | n + 1, l, h, k, hk => by
    simp only [coll, Option.bind_eq_some_iff, Option.map_eq_some_iff] at h
    obtain ⟨l', h1, a, h2, rfl⟩ := h
    have hl := coll_len h1
    by_cases hk' : k < n
    · rw [List.getElem?_append_left (by omega)]; exact coll_at h1 k hk'
    · obtain rfl : k = n := by omega
      rw [List.getElem?_append_right (by omega), hl, Nat.sub_self, h2]; rfl
theorem coll_none {f : Nat → Option α} {k : Nat} (h : f k = none) : ∀ {n : Nat}, k < n → coll f n = none
  | 0, hk => by omega
  | n + 1, hk => by
    show (coll f n).bind _ = none
    by_cases hk' : k < n
    · rw [coll_none h hk']; rfl
    · obtain rfl : k = n := by omega
      rw [h]
      cases coll f k <;> rfl
theorem coll_some {f : Nat → Option α} {g : Nat → α} : ∀ {n : Nat}, (∀ k, k < n → f k = some (g k)) → coll f n = some ((List.range n).map g)
  | 0, _ => rfl
  | n + 1, h => by
    rw [coll_step (coll_some fun k hk => h k (by omega)), h n (by omega), List.range_succ, List.map_append]; rfl
theorem coll_same {f g : Nat → Option α} : ∀ {n : Nat}, (∀ k, k < n → f k = g k) → coll f n = coll g n
  | 0, _ => rfl
  | n + 1, h => by
    show (coll f n).bind _ = (coll g n).bind _
    rw [coll_same fun k hk => h k (by omega), h n (by omega)]
end
def sumN (f : Nat → V) : Nat → Option V
  | 0 => some V.zero
  | n + 1 => (sumN f n).bind fun s => if okv (V.add s (f n)) then some (V.add s (f n)) else none
theorem sumN_step {f : Nat → V} {n : Nat} {s : V} (h : sumN f n = some s) : sumN f (n + 1) = if okv (V.add s (f n)) then some (V.add s (f n)) else none := by
  show (sumN f n).bind _ = _
  rw [h]; rfl
theorem sumN_sig {f : Nat → V} : ∀ {n : Nat} {s : V}, sumN f n = some s → s = sig f n
  | 0, s, h => by simp only [sumN, Option.some.injEq] at h; exact h.symm
  | n + 1, s, h => by
    simp only [sumN, Option.bind_eq_some_iff] at h
    obtain ⟨s', h1, h2⟩ := h
    split at h2
    · simp only [Option.some.injEq] at h2
      rw [← h2, sumN_sig h1]; rfl
    · cases h2
theorem sumN_ok {f : Nat → V} : ∀ {n : Nat} {s : V}, sumN f n = some s → okv s = true
  | 0, s, h => by simp only [sumN, Option.some.injEq] at h; rw [← h]; exact okv_zero
  | n + 1, s, h => by
    simp only [sumN, Option.bind_eq_some_iff] at h
    obtain ⟨s', h1, h2⟩ := h
    split at h2
    · simp only [Option.some.injEq] at h2
      rw [← h2]; assumption
    · cases h2
theorem sumN_none {f : Nat → V} {m : Nat} (h : sumN f m = none) : ∀ {n : Nat}, m ≤ n → sumN f n = none
  | 0, hm => by rw [show m = 0 by omega] at h; exact h
  | n + 1, hm => by
    by_cases e : m = n + 1
    · rw [← e]; exact h
    · show (sumN f n).bind _ = none
      rw [sumN_none h (by omega)]; rfl
theorem sumN_same {f g : Nat → V} : ∀ {n : Nat}, (∀ k, k < n → f k = g k) → sumN f n = sumN g n
  | 0, _ => rfl
  | n + 1, h => by
    show (sumN f n).bind _ = (sumN g n).bind _
    rw [sumN_same fun k hk => h k (by omega), h n (by omega)]
end Go.Proofs.Ytibhlaojinedoaa
/- Rows: what each function of chapter 6 answers, and what its laws then say (no program). -/
namespace Go.Proofs.Ytibhlaojinedoaa
set_option maxRecDepth 20000
set_option linter.unusedVariables false
set_option linter.unusedSimpArgs false

theorem list_same {a b : List V} (h : a.length = b.length) (k : ∀ i, i < a.length → at' a i = at' b i) : a = b := by
  apply List.ext_getElem? 
  intro i
  by_cases hi : i < a.length
  · have := k i hi
    unfold at' at this
    rw [List.getElem?_eq_getElem hi, List.getElem?_eq_getElem (by omega)] at this ⊢
    simpa using this
  · rw [List.getElem?_eq_none (by omega), List.getElem?_eq_none (by omega)]
theorem at_get {xs : List V} {k : Nat} (h : k < xs.length) : xs[k]? = some (at' xs k) := by
  unfold at'
  rw [List.getElem?_eq_getElem h]; rfl
theorem at_map (g : Nat → V) {n k : Nat} (h : k < n) : at' ((List.range n).map g) k = g k := at_some (by simp [h])
theorem coll_at' {f : Nat → Option V} {n : Nat} {l : List V} (h : coll f n = some l) {k : Nat} (hk : k < n) : f k = some (at' l k) := by
  rw [coll_at h k hk, at_get (by rw [coll_len h]; exact hk)]

/-- A list of points is a row. -/
def rowOk (xs : List V) : Bool := rowLen xs.length && xs.all okv
theorem rowOk_len {xs : List V} (h : rowOk xs = true) : rowLen xs.length = true := by
  unfold rowOk at h; rw [Bool.and_eq_true] at h; exact h.1
theorem rowOk_at {xs : List V} (h : rowOk xs = true) {k : Nat} (hk : k < xs.length) : okv (at' xs k) = true := by
  unfold rowOk at h
  rw [Bool.and_eq_true, List.all_eq_true] at h
  exact h.2 _ (List.mem_of_getElem? (at_get hk))
theorem rowOk_of {xs : List V} (h : rowLen xs.length = true) (k : ∀ i, i < xs.length → okv (at' xs i) = true) : rowOk xs = true := by
  unfold rowOk
  rw [Bool.and_eq_true, List.all_eq_true]
  refine ⟨h, fun a ha => ?_⟩
  obtain ⟨i, hi⟩ := List.getElem?_of_mem ha
  have hl := (List.getElem?_eq_some_iff.1 hi).1
  rw [← at_some hi]; exact k i hl
theorem rowOk_short {xs : List V} (h : rowOk xs = true) : 1 ≤ xs.length ∧ xs.length ≤ 24 := ⟨(rowLen_in (rowOk_len h)).1, (rowLen_in (rowOk_len h)).2.2⟩

/-! Transforms. -/
def trO (p : Nat) (xs : List V) : Option (List V) := if rowOk xs then coll (fun j => sumN (fun k => tV (p * (j * k)) (at' xs k)) xs.length) xs.length else none
def trF (xs : List V) : Option (List V) := trO (bw xs.length) xs
def trB (xs : List V) : Option (List V) := trO (fw xs.length) xs
theorem trO_some {p : Nat} {xs ys : List V} (h : trO p xs = some ys) : rowOk xs = true ∧ ys.length = xs.length ∧ rowOk ys = true ∧ ∀ j, j < xs.length → at' ys j = tr p xs.length (at' xs) j := by
  unfold trO at h
  split at h
  · rename_i hok
    have hl := coll_len h
    refine ⟨hok, hl, rowOk_of (by rw [hl]; exact rowOk_len hok) fun i hi => ?_, fun j hj => ?_⟩
    · exact sumN_ok (coll_at' h (by rw [← hl]; exact hi))
    · exact sumN_sig (coll_at' h hj)
  · cases h
/-- Each point as often as told. -/
def scO (n : Int) (xs : List V) : Option (List V) := coll (fun k => if okv (mulV n (at' xs k)) then some (mulV n (at' xs k)) else none) xs.length
theorem scO_some {n : Int} {xs zs : List V} (h : scO n xs = some zs) : zs.length = xs.length ∧ ∀ k, k < xs.length → at' zs k = mulV n (at' xs k) := by
  unfold scO at h
  refine ⟨coll_len h, fun k hk => ?_⟩
  have := coll_at' h hk
  split at this
  · simpa using this.symm
  · cases this
theorem say_forth {xs ys zs us : List V} (h : trF xs = some ys) (h2 : trB ys = some zs) (h3 : scO xs.length xs = some us) : zs = us := by
  obtain ⟨k, hl, _, hy⟩ := trO_some h
  obtain ⟨_, hl2, _, hz⟩ := trO_some h2
  obtain ⟨hl3, hu⟩ := scO_some h3
  refine list_same (by omega) fun i hi => ?_
  rw [hz i (by omega), hu i (by omega), hl, tr_same hy i]
  exact tr_forth (rowOk_len k) _ (by omega)
theorem say_home {xs ys zs us : List V} (h : trB xs = some ys) (h2 : trF ys = some zs) (h3 : scO xs.length xs = some us) : zs = us := by
  obtain ⟨k, hl, _, hy⟩ := trO_some h
  obtain ⟨_, hl2, _, hz⟩ := trO_some h2
  obtain ⟨hl3, hu⟩ := scO_some h3
  refine list_same (by omega) fun i hi => ?_
  rw [hz i (by omega), hu i (by omega), hl, tr_same hy i]
  exact tr_home (rowOk_len k) _ (by omega)

/-! Shifted rows. -/
def shL (m : Nat) (xs : List V) : List V := (List.range xs.length).map fun k => at' xs ((k + m) % xs.length)
def shO (m : Int) (xs : List V) : Option (List V) := if rowOk xs && decide (0 ≤ m) && decide (m ≤ 23) then some (shL m.toNat xs) else none
theorem shL_len (m : Nat) (xs : List V) : (shL m xs).length = xs.length := by simp [shL]
theorem shL_at (m : Nat) {xs : List V} {k : Nat} (h : k < xs.length) : at' (shL m xs) k = at' xs ((k + m) % xs.length) := at_map _ h
theorem shO_some {m : Int} {xs ys : List V} (h : shO m xs = some ys) : rowOk xs = true ∧ (∃ n : Nat, n ≤ 23 ∧ m = n ∧ ys = shL n xs) := by
  unfold shO at h
  split at h
  · rename_i hc
    simp only [Bool.and_eq_true, decide_eq_true_eq] at hc
    exact ⟨hc.1.1, m.toNat, by omega, by omega, (Option.some.inj h).symm⟩
  · cases h
theorem shO_yes {n : Nat} {xs : List V} (h : rowOk xs = true) (hn : n ≤ 23) : shO n xs = some (shL n xs) := by
  unfold shO
  rw [if_pos]
  · rfl
  · simp only [Bool.and_eq_true, decide_eq_true_eq]; exact ⟨⟨h, by omega⟩, by omega⟩
theorem shL_zero (xs : List V) : shL 0 xs = xs := list_same (shL_len 0 xs) fun k hk => by
  rw [shL_len] at hk
  rw [shL_at 0 hk, Nat.add_zero, Nat.mod_eq_of_lt hk]
theorem shL_round {xs : List V} (h24 : xs.length ≤ 24) : shL (xs.length % 24) xs = xs := by
  by_cases h : xs.length < 24
  · rw [Nat.mod_eq_of_lt h]
    refine list_same (shL_len _ xs) fun k hk => ?_
    rw [shL_len] at hk
    rw [shL_at _ hk, Nat.add_mod_right, Nat.mod_eq_of_lt hk]
  · rw [show xs.length = 24 by omega]
    exact shL_zero xs
theorem shL_ok {m : Nat} {xs : List V} (h : rowOk xs = true) : rowOk (shL m xs) = true := by
  refine rowOk_of (by rw [shL_len]; exact rowOk_len h) fun i hi => ?_
  rw [shL_len] at hi
  rw [shL_at m hi]
  exact rowOk_at h (Nat.mod_lt _ (by omega))
theorem say_shift {m : Nat} {xs ys zs : List V} (h : trF xs = some ys) (h2 : trF (shL m xs) = some zs) {j : Nat} (hj : j < xs.length) : tV (j * m % xs.length * (24 / xs.length)) (at' ys j) = at' zs j := by
  obtain ⟨k, hl, _, hy⟩ := trO_some h
  obtain ⟨_, hl2, _, hz⟩ := trO_some h2
  rw [shL_len] at hl2
  rw [hy j hj, hz j (by rw [shL_len]; exact hj), shL_len]
  have hn := rowOk_len k
  have e := tr_shift (bw_round hn) (rowLen_in hn).1 (at' xs) m j
  have e2 : tr (bw xs.length) xs.length (at' (shL m xs)) j = tr (bw xs.length) xs.length (fun k => at' xs ((k + m) % xs.length)) j := tr_same (fun k hk => shL_at m hk) j
  rw [e2, ← e, tV_more]
  refine (tV_same (n := 0) _ ?_).trans (tV_none _)
  have hp := rowLen_part hn
  have h1 : j * m % xs.length * (24 / xs.length) % 24 = fw xs.length * (j * m) % 24 := by
    conv => rhs; rw [← Nat.mod_add_div (j * m) xs.length]
    show _ = 24 / xs.length * _ % 24
    rw [Nat.mul_add, ← Nat.mul_assoc (24 / xs.length) xs.length, hp, Nat.add_mul_mod_self_left, Nat.mul_comm]
  rw [Nat.add_mod, h1, ← Nat.add_mod, ← Nat.add_mul, Nat.mul_mod, fb]; simp

/-! Products. -/
def pairOk (a b : List V) : Bool := rowOk a && rowOk b && decide (a.length = b.length)
theorem pairOk_in {a b : List V} (h : pairOk a b = true) : rowOk a = true ∧ rowOk b = true ∧ a.length = b.length := by
  unfold pairOk at h
  simp only [Bool.and_eq_true, decide_eq_true_eq] at h
  exact ⟨h.1.1, h.1.2, h.2⟩
theorem pairOk_comm (a b : List V) : pairOk a b = pairOk b a := by
  unfold pairOk
  rw [Bool.and_comm (rowOk a)]
  congr 1
  exact decide_eq_decide.2 ⟨Eq.symm, Eq.symm⟩
/-- The points of a list, where all are valid. -/
def collP (f : Nat → V) (n : Nat) : Option (List V) := coll (fun i => if okv (f i) then some (f i) else none) n
theorem collP_some {f : Nat → V} {n : Nat} {l : List V} (h : collP f n = some l) : l.length = n ∧ ∀ k, k < n → at' l k = f k ∧ okv (f k) = true := by
  refine ⟨coll_len h, fun k hk => ?_⟩
  have := coll_at' h hk
  split at this
  · rename_i hok
    exact ⟨by simpa using this.symm, hok⟩
  · cases this
theorem collP_yes {f : Nat → V} {n : Nat} (h : ∀ k, k < n → okv (f k) = true) : collP f n = some ((List.range n).map f) := coll_some fun k hk => if_pos (h k hk)
theorem collP_same {f g : Nat → V} {n : Nat} (h : ∀ k, k < n → f k = g k) : collP f n = collP g n := coll_same fun k hk => by rw [h k hk]
def tmO (a b : List V) : Option (List V) := if pairOk a b then collP (fun k => prV (at' a k) (at' b k)) a.length else none
theorem tmO_some {a b c : List V} (h : tmO a b = some c) : pairOk a b = true ∧ c.length = a.length ∧ rowOk c = true ∧ ∀ k, k < a.length → at' c k = prV (at' a k) (at' b k) := by
  unfold tmO at h
  split at h
  · rename_i hp
    obtain ⟨hl, hc⟩ := collP_some h
    refine ⟨hp, hl, rowOk_of (by rw [hl]; exact rowOk_len (pairOk_in hp).1) fun i hi => ?_, fun k hk => (hc k hk).1⟩
    rw [(hc i (by omega)).1]; exact (hc i (by omega)).2
  · cases h
theorem tmO_comm (a b : List V) : tmO a b = tmO b a := by
  unfold tmO
  rw [pairOk_comm]
  split
  · rename_i h
    rw [(pairOk_in h).2.2]
    exact collP_same fun k _ => prV_comm _ _
  · rfl
/-- One point of a circular product: each product is asked, then the sums. -/
def sumP (f : Nat → V) (n : Nat) : Option V := if (collP f n).isSome then sumN f n else none
def crO (a b : List V) : Option (List V) := if pairOk a b then coll (fun k => sumP (fun i => prV (at' a i) (at' b (cix a.length k i))) a.length) a.length else none
theorem sumP_some {f : Nat → V} {n : Nat} {s : V} (h : sumP f n = some s) : s = sig f n ∧ okv s = true := by
  unfold sumP at h
  split at h
  · exact ⟨sumN_sig h, sumN_ok h⟩
  · cases h
theorem crO_some {a b c : List V} (h : crO a b = some c) : pairOk a b = true ∧ c.length = a.length ∧ rowOk c = true ∧ ∀ k, k < a.length → at' c k = circ a.length (at' a) (at' b) k := by
  unfold crO at h
  split at h
  · rename_i hp
    have hl := coll_len h
    refine ⟨hp, hl, rowOk_of (by rw [hl]; exact rowOk_len (pairOk_in hp).1) fun i hi => ?_, fun k hk => ?_⟩
    · exact (sumP_some (coll_at' h (by rw [← hl]; exact hi))).2
    · exact (sumP_some (coll_at' h hk)).1
  · cases h
theorem say_comm {a b c d : List V} (h : crO a b = some c) (h2 : crO b a = some d) : d = c := by
  obtain ⟨hp, hl, _, hc⟩ := crO_some h
  obtain ⟨_, hl2, _, hd⟩ := crO_some h2
  have e := (pairOk_in hp).2.2
  refine list_same (by omega) fun i hi => ?_
  rw [hc i (by omega), hd i (by omega), ← e]
  exact circ_comm (rowOk_short (pairOk_in hp).1).1 _ _ (by omega)
theorem say_circ {a b c u v w z : List V} (h : crO a b = some c) (hu : trF a = some u) (hv : trF b = some v) (hw : trF c = some w) (hz : tmO u v = some z) : w = z := by
  obtain ⟨hp, hl, _, hc⟩ := crO_some h
  obtain ⟨_, lu, _, eu⟩ := trO_some hu
  obtain ⟨_, lv, _, ev⟩ := trO_some hv
  obtain ⟨_, lw, _, ew⟩ := trO_some hw
  obtain ⟨_, lz, _, ez⟩ := tmO_some hz
  have e := (pairOk_in hp).2.2
  refine list_same (by omega) fun i hi => ?_
  have hn := rowOk_len (pairOk_in hp).1
  rw [ew i (by omega), ez i (by omega), eu i (by omega), ev i (by omega), hl, ← e, tr_same hc i]
  exact tr_circ (bw_round hn) (rowLen_in hn).1 _ _ i

end Go.Proofs.Ytibhlaojinedoaa
/- impl: rows made of lists of points, and told. -/
namespace Go.Proofs.Ytibhlaojinedoaa
set_option maxRecDepth 20000
open Go.ChangeShapes Go.WideShapes Go.ChangeAt Go.RowKit
set_option linter.unusedVariables false
set_option linter.unusedSimpArgs false

theorem tyY : TyL Try.prog 64 80 8 := tyL_of (z := .agg (vec 8 nul)) (b := 64) Try.underlying64 (by kernel_rfl) (by omega) rfl
section
variable {P : Program} {t e : TypeId} {ops : Array Oper} {rest : List Oper} {o : Oper} {a : Act} {Q : Exit → Act → World → Prop} {w0 w : World} {B : Nat}
theorem fill_8 (g : Nat → Value) (f : Nat → Int) : Instr.fill (fun i => some (i * 8, 8)) ((Array.range (1 * 8)).map g) [(0, .agg (vec 8 f))] = some (vec 8 f) := by
  have h1 : (Array.range (1 * 8)).map g = #[g 0, g 1, g 2, g 3, g 4, g 5, g 6, g 7] := by
    refine Array.ext (by simp) fun i h1 h2 => ?_
    simp only [Nat.one_mul, Array.size_map, Array.size_range] at h1
    have : i = 0 ∨ i = 1 ∨ i = 2 ∨ i = 3 ∨ i = 4 ∨ i = 5 ∨ i = 6 ∨ i = 7 := by omega
    rcases this with rfl | rfl | rfl | rfl | rfl | rfl | rfl | rfl <;> simp
  have h2 : vec 8 f = #[.int .i64 (f 0), .int .i64 (f 1), .int .i64 (f 2), .int .i64 (f 3), .int .i64 (f 4), .int .i64 (f 5), .int .i64 (f 6), .int .i64 (f 7)] := rfl
  rw [h1, h2]
  simp [Instr.fill, Value.cells]
theorem run_one8 (ty : TyL P t e 8) (f : Nat → Int) (w : World) : (Instr.buildSlice t 1 #[(0, .agg (vec 8 f))]).run P w = .ok (.slice (some ⟨w.heap.size, 0, none⟩) 1 1) (w.alloc (.cells (vec 8 f) e)) := by
  obtain ⟨i, z, hi, hz, hs, hby, hzs⟩ := ty.inf
  have hf := fill_8 (fun x => z.cells[x % z.cells.size]!) f
  simp [Instr.buildSlice, run_underlying ty.sl, sizeOf, typeInfo, zeroValue, hi, hz, hs, Sem.run_bind]
  rw [Nat.one_mul] at hf
  simp [hf, newRow]
/-- A list of one point, made on the spot. -/
theorem one8 (ty : TyL P t e 8) {x : Operand} {f : Nat → Int} (hgd : o.guard = none) (ho : o.op = .buildSlice t 1 #[(0, x)]) (hx : a.eval x = .agg (vec 8 f))
    (h : wpList P ops Q rest (a.put o.dst (.slice (some ⟨w.heap.size, 0, none⟩) 1 1)) (w.alloc (.cells (vec 8 f) e))) : wpList P ops Q (o :: rest) a w := by
  refine wpList_plain hgd fun K hK => ?_
  unfold Oper.wp execOp
  simp [ho, hx, Sem.run_bind, run_one8 ty f w, Result.andThen]
  exact hK _ _ h
end
theorem lit8 (w : World) (x : V) (T : Nat) : ReadsL encV (w.alloc (.cells (vec 8 x.up) T)) (.slice (some ⟨w.heap.size, 0, none⟩) 1 1) [x] := litL_reads (en := encV) w x T
theorem ownL_none (w : World) (B T : Nat) : OwnL encV 8 w B T (.slice none 0 0) ([] : List V) := World.ownsRow_nil w B T 8
theorem take_nextV {xs : List V} {k : Nat} {c : V} (hc : xs[k]? = some c) : xs.take (k + 1) = xs.take k ++ [c] := by rw [List.take_add_one, hc]; rfl
theorem okAll_take {xs : List V} {k : Nat} {c : V} (h : (xs.take k).all okv = true) (hc : xs[k]? = some c) (hk : okv c = true) : (xs.take (k + 1)).all okv = true := by
  rw [take_nextV hc, List.all_append, h]; simp [hk]
theorem rowOk_bad {xs : List V} {k : Nat} {c : V} (hc : xs[k]? = some c) (hk : okv c = false) : rowOk xs = false := by
  unfold rowOk
  rw [List.all_eq_false.2 ⟨c, List.mem_of_getElem? hc, by rw [hk]; decide⟩, Bool.and_false]
theorem rowOk_no {xs : List V} (h : rowLen xs.length = false) : rowOk xs = false := by unfold rowOk; rw [h]; rfl

/-- What is told of a list of points: the list and true, or none and false. -/
def gotL (o : Option (List V)) : List V := o.getD []
def ToldL (T : Nat) (w : World) (o : Option (List V)) (e : Ending) (w' : World) : Prop :=
  Below w.heap.size w w' ∧ ∃ v', e = .returned (.tuple #[v', .bool o.isSome]) ∧ OwnL encV 8 w' w.heap.size T v' (gotL o)
/-- A row out of a list, where it is one. -/
def rowO (xs : List V) : Option (List V) := if rowOk xs then some xs else none
theorem rowO_no {xs : List V} (h : rowOk xs = false) : rowO xs = none := by unfold rowO; rw [h]; rfl
theorem rowO_yes {xs : List V} (h : rowOk xs = true) : rowO xs = some xs := by unfold rowO; rw [h]; rfl

/-- A row's length. -/
def rowZ (n : Int) : Bool := decide (1 ≤ n) && rowLen n.toNat
theorem rowZ_nat (n : Nat) : rowZ n = rowLen n := by
  unfold rowZ rowLen
  simp only [Int.toNat_natCast]
  by_cases h : 1 ≤ n
  · rw [decide_eq_true (by omega : (1 : Int) ≤ (n : Int)), Bool.true_and]
  · rw [decide_eq_false (by omega : ¬ (1 : Int) ≤ (n : Int)), decide_eq_false h]; rfl
end Go.Proofs.Ytibhlaojinedoaa
/- The model's lengths of rows. -/
namespace Go.Proofs.Ytibhlaojinedoaa
set_option maxRecDepth 20000
open Go.ChangeShapes Go.WideShapes Go.ChangeAt Go.RowKit
set_option linter.unusedVariables false
set_option linter.unusedSimpArgs false

theorem specLength_any (n : Int) (w : World) : Calls Try.prog 39 #[.int .i64 n] w fun e w' => e = .returned (.bool (rowZ n)) ∧ w = w' := by
  by_cases h1 : 1 ≤ n
  · obtain ⟨m, rfl⟩ : ∃ m : Nat, n = m := ⟨n.toNat, by omega⟩
    rw [rowZ_nat]
    have h0 : ¬ (m : Int) = 0 := by omega
    by_cases h24 : (m : Int) ≤ 24
    · have h00 : ((m : Int) == 0) = false := by simpa using h0
      obtain ⟨q, hq⟩ : ∃ q, 24 % m = q := ⟨_, rfl⟩
      have hle : q ≤ 24 := by rw [← hq]; exact Nat.mod_le 24 m
      have e : Int.tmod 24 (m : Int) = (q : Int) := by
        rw [Int.tmod_eq_emod_of_nonneg (by decide), ← hq]; simp
      have er : rowLen m = ((q : Int) == 0) := by
        unfold rowLen
        rw [decide_eq_true (by omega : 1 ≤ m), Bool.true_and, hq]
        by_cases h : q = 0
        · subst h; rfl
        · rw [decide_eq_false h]; symm; simpa using h
      rw [er]
      clear er hq
      have e2 : (24 : Int).tmod (m : Int) = (q : Int) := e
      have q1 : IntKind.i64.wrap (q : Int) = (q : Int) := by rw [IntKind.wrap_i64]; omega
      go_enter Try.func39, Try.ntmps39
      go_wp2
      go_ret
      exact ⟨rfl, rfl⟩
    · have er : rowLen m = false := by
        cases h : rowLen m
        · rfl
        · have := (rowLen_in h).2.2; omega
      rw [er]
      go_enter Try.func39, Try.ntmps39
      go_wp2
      go_ret
      exact ⟨rfl, rfl⟩
  · have e : rowZ n = false := by unfold rowZ; rw [decide_eq_false h1]; rfl
    rw [e]
    go_enter Try.func39, Try.ntmps39
    go_wp2
    go_ret
    exact ⟨rfl, rfl⟩
theorem specV (a : V) (w : World) : Calls Try.prog 52 #[pt a.up] w fun e w' => e = .returned (.bool (okv a)) ∧ Below w.heap.size w w' := specValid_any a.up w
theorem specTurnV (a : V) {t : Nat} (ht : t ≤ 23) (ha : okv a = true) (w : World) : Calls Try.prog 67 #[pt a.up, .int .i64 t] w fun e w' => e = .returned (pt (tV t a).up) ∧ Below w.heap.size w w' := by
  rw [← pt_tV a ht]; exact specTurned_any a.up t ht (inR_bound ha) w
theorem specSumV (a b : V) (ha : Big a 8000000000000000) (hb : Big b 1000000000) (w : World) : Calls Try.prog 66 #[pt a.up, .int .i64 1, pt b.up] w fun e w' => e = .returned (pt (V.add a b).up) ∧ Below w.heap.size w w' := by
  have e : pt (mul1 a.up 1 b.up) = pt (V.add a b).up := pt_same fun j hj => by rw [add_up]; show a.up j + 1 * b.up j = a.up j + b.up j; omega
  rw [← e]; exact specSum_any a.up b.up 1 (by omega) ha hb w

end Go.Proofs.Ytibhlaojinedoaa
