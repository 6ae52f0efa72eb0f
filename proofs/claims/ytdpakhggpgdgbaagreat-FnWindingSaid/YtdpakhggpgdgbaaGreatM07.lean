/-
  Out of the text SurdMathC: what the draws of polygons need.
  Out of the text SurdS: what the draws of polygons need.
  Out of the text SurdT: what the draws of polygons need.
-/
import Derived.Test.YtdpakhggpgdgbaaGreatM06
import Derived.WalkLawsBesides
import Derived.Deep.DeepCutAuto
import Derived.Test.YtdpakhggpgdgbaaGreatM03
/- Out of the text SurdMathC: what the draws of polygons need. -/
namespace Go.Proofs.YtdpakhggpgdgbaaGreat
set_option maxRecDepth 20000
set_option linter.unusedVariables false
set_option linter.unusedSimpArgs false
theorem four_cases {P : Nat → Prop} (h0 : P 0) (h1 : P 1) (h2 : P 2) (h3 : P 3) : ∀ j, j < 4 → P j := fun j hj => by
  rcases (show j = 0 ∨ j = 1 ∨ j = 2 ∨ j = 3 by omega) with rfl | rfl | rfl | rfl <;> assumption
theorem p4_four {a b c e : Int} (h : P4 (4 * a) (4 * b) (4 * c) (4 * e)) : P4 a b c e := by
  rcases p4_tri a b c e with ⟨rfl, rfl, rfl, rfl⟩ | k | k
  · exact (p4_zero h).elim
  · exact k
  · exfalso
    have k2 := p4_add (p4_add k k) (p4_add k k)
    refine p4_not h ?_
    rwa [show -a + -a + (-a + -a) = -(4 * a) by omega, show -b + -b + (-b + -b) = -(4 * b) by omega, show -c + -c + (-c + -c) = -(4 * c) by omega, show -e + -e + (-e + -e) = -(4 * e) by omega] at k2
end Go.Proofs.YtdpakhggpgdgbaaGreat
/- Out of the text SurdS: what the draws of polygons need. -/
namespace Go.Proofs.YtdpakhggpgdgbaaGreat
set_option maxRecDepth 20000
open Go.ChangeShapes Go.WideShapes Go.ChangeAt Go.RowKit
set_option linter.unusedVariables false
set_option linter.unusedSimpArgs false
theorem l3Size_any (n : Int) (h : -9000000000000000000 ≤ n ∧ n ≤ 9000000000000000000) (w : World) : Calls Tryz.prog 94 #[.int .i64 n] w fun e w' => e = .returned (.int .u64 n.natAbs) ∧ w = w' := by
  by_cases h1 : n < 0
  · go_enter Tryz.func94, Tryz.ntmps94
    go_wp2
    go_ret
    exact ⟨ret_int (by omega), rfl⟩
  · go_enter Tryz.func94, Tryz.ntmps94
    go_wp2
    go_ret
    exact ⟨ret_int (by omega), rfl⟩
theorem ret_uu {a b c d : Int} (h : a = b) (h' : c = d) : Ending.returned (.tuple #[.int .u64 a, .int .u64 c]) = .returned (.tuple #[.int .u64 b, .int .u64 d]) := by rw [h, h']
theorem l3Square_any (n : Nat) (hn : n < 18446744073709551616) :
    ∃ h l : Int, (n : Int) * n = h * 18446744073709551616 + l ∧ 0 ≤ h ∧ 0 ≤ l ∧ l < 18446744073709551616 ∧ ∀ w, Calls Tryz.prog 93 #[.int .u64 n] w fun e w' => e = .returned (.tuple #[.int .u64 h, .int .u64 l]) ∧ w = w' := by
  refine ⟨((n * n / 18446744073709551616 : Nat) : Int), ((n * n % 18446744073709551616 : Nat) : Int), ?_, by omega, by omega, by omega, fun w => ?_⟩
  · rw [← Int.natCast_mul]; omega
  have hm := Lib.half_mul_le (a := n % 4294967296) (b := n / 4294967296) (by omega) (by omega)
  have ho := Lib.half_mul_le (a := n % 4294967296) (b := n % 4294967296) (by omega) (by omega)
  have hh := Lib.half_mul_le (a := n / 4294967296) (b := n / 4294967296) (by omega) (by omega)
  have e : n * n = (n / 4294967296) * (n / 4294967296) * 18446744073709551616 + (n % 4294967296) * (n / 4294967296) * 8589934592 + (n % 4294967296) * (n % 4294967296) := by
    have h := Lib.split_mul (n / 4294967296) (n % 4294967296) (n / 4294967296) (n % 4294967296) 4294967296
    have h2 : n / 4294967296 * 4294967296 + n % 4294967296 = n := by omega
    rw [h2, Nat.mul_comm (n / 4294967296) (n % 4294967296)] at h
    rw [h]
    simp only [Nat.reduceMul]
    clear h h2 hm ho hh hn
    generalize (n / 4294967296) * (n / 4294967296) = q
    generalize (n % 4294967296) * (n / 4294967296) = m
    generalize (n % 4294967296) * (n % 4294967296) = o
    omega
  have hnn : n * n ≤ 18446744073709551615 * 18446744073709551615 := Nat.mul_le_mul (by omega) (by omega)
  have HE := Lib.hid e; have HM := Lib.hid hm; have HO := Lib.hid ho; have HH := Lib.hid hh; have HN := Lib.hid hnn
  clear e hm ho hh hnn
  obtain ⟨N, hN⟩ : ∃ N, N = n * n := ⟨_, rfl⟩
  rw [← hN]
  have HNN := Lib.hid hN; clear hN
  obtain ⟨A, hA⟩ : ∃ A : Int, A = ((N / 18446744073709551616 : Nat) : Int) := ⟨_, rfl⟩
  obtain ⟨B, hB⟩ : ∃ B : Int, B = ((N % 18446744073709551616 : Nat) : Int) := ⟨_, rfl⟩
  rw [← hA, ← hB]
  have HA := Lib.hid hA; have HB := Lib.hid hB; clear hA hB
  go_enter Tryz.func93, Tryz.ntmps93
  go_upto_region 7 with fail
  simp only [Mul64.maskN n hn, Mul64.divN, Mul64.mulN, Mul64.addN]
  have e := HE.out; have hm := HM.out; have ho := HO.out; have hh := HH.out; have hnn := HN.out; have hN := HNN.out
  rw [← hN] at e hnn
  clear HE HM HO HH HN HNN hN
  generalize (n / 4294967296) * (n / 4294967296) = q at *
  generalize (n % 4294967296) * (n / 4294967296) = m at *
  generalize (n % 4294967296) * (n % 4294967296) = o at *
  have w1 : IntKind.u64.wrap (m : Int) = m := Mul64.wrapN _ (by omega)
  have w2 : IntKind.u64.wrap (o : Int) = o := Mul64.wrapN _ (by omega)
  have w3 : IntKind.u64.wrap (q : Int) = q := Mul64.wrapN _ (by omega)
  have w4 : IntKind.u64.wrap ((m : Int) * 8589934592) = ((m * 8589934592 % 18446744073709551616 : Nat) : Int) := by rw [IntKind.wrap_u64]; omega
  have w5 : (m : Int) / 2147483648 = ((m / 2147483648 : Nat) : Int) := by omega
  obtain ⟨x, hx⟩ : ∃ x, x = m * 8589934592 % 18446744073709551616 := ⟨_, rfl⟩
  obtain ⟨t, ht⟩ : ∃ t, t = q + m / 2147483648 := ⟨_, rfl⟩
  have w6 : IntKind.u64.wrap ((o : Int) + (x : Int)) = (((o + x) % 18446744073709551616 : Nat) : Int) := by rw [IntKind.wrap_u64]; omega
  have w7 : IntKind.u64.wrap ((q : Int) + ((m / 2147483648 : Nat) : Int)) = (t : Int) := by rw [IntKind.wrap_u64]; omega
  obtain ⟨s, hs⟩ : ∃ s, s = (o + x) % 18446744073709551616 := ⟨_, rfl⟩
  simp only [w1, w2, w3, w4, ← hx, w5, w6, w7, ← hs]
  clear w1 w2 w3 w4 w5 w6 w7
  have hL : B = (s : Int) := by rw [HB.out]; omega
  have HL := Lib.hid hL; clear hL
  by_cases hc : s < o
  · have hH : A = (t : Int) + 1 := by rw [HA.out]; omega
    have HH := Lib.hid hH
    have hc' : (s : Int) < (o : Int) := by omega
    have ht1 : t < 18446744073709551615 := by omega
    clear e hx ht hs hH hc hnn
    go_wp2
    go_ret2
    exact ⟨ret_uu HH.out.symm HL.out.symm, rfl⟩
  · have hH : A = (t : Int) := by rw [HA.out]; omega
    have HH := Lib.hid hH
    have hc' : ¬ (s : Int) < (o : Int) := by omega
    clear e hx ht hs hH hc hnn
    go_wp2
    go_ret2
    exact ⟨ret_uu HH.out.symm HL.out.symm, rfl⟩
theorem or_even (a r : Int) (h0 : 0 ≤ a) (h1 : a < 4611686018427387904) (r0 : 0 ≤ r) (r1 : r ≤ 1) : bits .or .u64 (a * 2) r = a * 2 + r := by
  obtain ⟨n, rfl⟩ := Int.eq_ofNat_of_zero_le h0
  obtain ⟨m, rfl⟩ := Int.eq_ofNat_of_zero_le r0
  have h := bits_or_u64_nat (n * 2) m (by omega) (by omega)
  have e : (n * 2) ||| m = n * 2 + m := by
    have := Nat.shiftLeft_add_eq_or_of_lt (i := 1) (b := m) (by omega) n
    rw [Nat.shiftLeft_eq] at this
    simpa using this.symm
  rw [e] at h
  have c1 : ((n * 2 : Nat) : Int) = (n : Int) * 2 := by omega
  have c2 : ((n * 2 + m : Nat) : Int) = (n : Int) * 2 + m := by omega
  rwa [c1, c2] at h
theorem sg2_same (a b : Int) (s t r : Int) (ha : sg1 a = s) (hb : sg1 b = t) (hst : s ≠ -t) (h : sg1 (s + t) = r) : sg2 a b = r := by
  rw [sg2_joined, ha, hb, joined, if_neg hst, h]
theorem sg2_over (a b : Int) (s t u : Int) (ha : sg1 a = s) (hb : sg1 b = t) (hst : s = -t) (h : sg1 (a * a - 2 * b * b) = u) : sg2 a b = s * u := by
  rw [sg2_joined, ha, hb, h, joined, if_pos hst]
theorem l3Two_pp (a b : Int) (h0 : -1000000000000000000 ≤ a ∧ a ≤ 1000000000000000000) (h1 : -1000000000000000000 ≤ b ∧ b ≤ 1000000000000000000) (ha : 0 < a) (hb : 0 < b) (w : World) :
    Calls Tryz.prog 70 #[.int .i64 a, .int .i64 b] w fun e w' => e = .returned (.int .i64 (sg2 a b)) ∧ w = w' := by
  have E : sg2 a b = 1 := sg2_same a b (1) (1) (1) (sg1_pos ha) (sg1_pos hb) (by decide) (by decide)
  rw [E]
  clear E
  go_enter Tryz.func70, Tryz.ntmps70
  go_wp2
  go_ret
  exact ⟨ret_int (by omega), rfl⟩
theorem l3Two_pz (a b : Int) (h0 : -1000000000000000000 ≤ a ∧ a ≤ 1000000000000000000) (h1 : -1000000000000000000 ≤ b ∧ b ≤ 1000000000000000000) (ha : 0 < a) (hb : b = 0) (w : World) :
    Calls Tryz.prog 70 #[.int .i64 a, .int .i64 b] w fun e w' => e = .returned (.int .i64 (sg2 a b)) ∧ w = w' := by
  have E : sg2 a b = 1 := sg2_same a b (1) (0) (1) (sg1_pos ha) (sg1_nil hb) (by decide) (by decide)
  rw [E]
  clear E
  subst hb
  go_enter Tryz.func70, Tryz.ntmps70
  go_wp2
  go_ret
  exact ⟨ret_int (by omega), rfl⟩
theorem l3Two_zp (a b : Int) (h0 : -1000000000000000000 ≤ a ∧ a ≤ 1000000000000000000) (h1 : -1000000000000000000 ≤ b ∧ b ≤ 1000000000000000000) (ha : a = 0) (hb : 0 < b) (w : World) :
    Calls Tryz.prog 70 #[.int .i64 a, .int .i64 b] w fun e w' => e = .returned (.int .i64 (sg2 a b)) ∧ w = w' := by
  have E : sg2 a b = 1 := sg2_same a b (0) (1) (1) (sg1_nil ha) (sg1_pos hb) (by decide) (by decide)
  rw [E]
  clear E
  subst ha
  go_enter Tryz.func70, Tryz.ntmps70
  go_wp2
  go_ret
  exact ⟨ret_int (by omega), rfl⟩
theorem l3Two_zz (a b : Int) (h0 : -1000000000000000000 ≤ a ∧ a ≤ 1000000000000000000) (h1 : -1000000000000000000 ≤ b ∧ b ≤ 1000000000000000000) (ha : a = 0) (hb : b = 0) (w : World) :
    Calls Tryz.prog 70 #[.int .i64 a, .int .i64 b] w fun e w' => e = .returned (.int .i64 (sg2 a b)) ∧ w = w' := by
  have E : sg2 a b = 0 := by subst ha; subst hb; decide
  rw [E]
  clear E
  subst ha
  subst hb
  go_enter Tryz.func70, Tryz.ntmps70
  go_wp2
  go_ret
  exact ⟨ret_int (by omega), rfl⟩
theorem l3Two_zn (a b : Int) (h0 : -1000000000000000000 ≤ a ∧ a ≤ 1000000000000000000) (h1 : -1000000000000000000 ≤ b ∧ b ≤ 1000000000000000000) (ha : a = 0) (hb : b < 0) (w : World) :
    Calls Tryz.prog 70 #[.int .i64 a, .int .i64 b] w fun e w' => e = .returned (.int .i64 (sg2 a b)) ∧ w = w' := by
  have E : sg2 a b = -1 := sg2_same a b (0) (-1) (-1) (sg1_nil ha) (sg1_neg hb) (by decide) (by decide)
  rw [E]
  clear E
  subst ha
  go_enter Tryz.func70, Tryz.ntmps70
  go_wp2
  go_ret
  exact ⟨ret_int (by omega), rfl⟩
theorem l3Two_nz (a b : Int) (h0 : -1000000000000000000 ≤ a ∧ a ≤ 1000000000000000000) (h1 : -1000000000000000000 ≤ b ∧ b ≤ 1000000000000000000) (ha : a < 0) (hb : b = 0) (w : World) :
    Calls Tryz.prog 70 #[.int .i64 a, .int .i64 b] w fun e w' => e = .returned (.int .i64 (sg2 a b)) ∧ w = w' := by
  have E : sg2 a b = -1 := sg2_same a b (-1) (0) (-1) (sg1_neg ha) (sg1_nil hb) (by decide) (by decide)
  rw [E]
  clear E
  subst hb
  go_enter Tryz.func70, Tryz.ntmps70
  go_wp2
  go_ret
  exact ⟨ret_int (by omega), rfl⟩
theorem l3Two_nn (a b : Int) (h0 : -1000000000000000000 ≤ a ∧ a ≤ 1000000000000000000) (h1 : -1000000000000000000 ≤ b ∧ b ≤ 1000000000000000000) (ha : a < 0) (hb : b < 0) (w : World) :
    Calls Tryz.prog 70 #[.int .i64 a, .int .i64 b] w fun e w' => e = .returned (.int .i64 (sg2 a b)) ∧ w = w' := by
  have E : sg2 a b = -1 := sg2_same a b (-1) (-1) (-1) (sg1_neg ha) (sg1_neg hb) (by decide) (by decide)
  rw [E]
  clear E
  go_enter Tryz.func70, Tryz.ntmps70
  go_wp2
  go_ret
  exact ⟨ret_int (by omega), rfl⟩
set_option maxHeartbeats 1000000 in
theorem l3Two_pn (a b : Int) (h0 : -1000000000000000000 ≤ a ∧ a ≤ 1000000000000000000) (h1 : -1000000000000000000 ≤ b ∧ b ≤ 1000000000000000000) (ha : 0 < a) (hb : b < 0) (w : World) :
    Calls Tryz.prog 70 #[.int .i64 a, .int .i64 b] w fun e w' => e = .returned (.int .i64 (sg2 a b)) ∧ w = w' := by
  obtain ⟨x, hx⟩ : ∃ x : Nat, x = a.natAbs := ⟨_, rfl⟩
  obtain ⟨y, hy⟩ : ∃ y : Nat, y = b.natAbs := ⟨_, rfl⟩
  have S : ∀ w, Calls Tryz.prog 94 #[.int .i64 a] w fun e w' => e = .returned (.int .u64 x) ∧ w = w' := fun w => by rw [hx]; exact l3Size_any a (by omega) w
  have T : ∀ w, Calls Tryz.prog 94 #[.int .i64 b] w fun e w' => e = .returned (.int .u64 y) ∧ w = w' := fun w => by rw [hy]; exact l3Size_any b (by omega) w
  obtain ⟨h, l, e1, lh, l0, l1, M⟩ := l3Square_any x (by omega)
  obtain ⟨h', l', e2, lh', l0', l1', N⟩ := l3Square_any y (by omega)
  have yy := mul_in 1000000000000000000 1000000000000000000 (x := (y : Int)) (y := y) (by omega) (by omega)
  simp only [Nat.reduceMul] at yy
  obtain ⟨q, hq⟩ : ∃ q, q = l' / 9223372036854775808 := ⟨_, rfl⟩
  obtain ⟨R, hR⟩ : ∃ R, R = l' * 2 % 18446744073709551616 := ⟨_, rfl⟩
  obtain ⟨U, hU⟩ : ∃ U, U = h' * 2 + q := ⟨_, rfl⟩
  have k1 : a * a = h * 18446744073709551616 + l := by rw [← e1, hx, sizes_sq]
  have k2 : 2 * b * b = U * 18446744073709551616 + R := by
    have := sizes_sq b
    rw [← hy] at this
    have e3 : 2 * b * b = 2 * (b * b) := by grind
    rw [e3, ← this]
    clear hx k1 e1 e3 this
    generalize (y : Int) * (y : Int) = p at *
    omega
  have hh' : h' < 4611686018427387904 := by
    clear hx k1 k2 e1
    generalize (y : Int) * (y : Int) = p at *
    omega
  have w1 : IntKind.u64.wrap (h' * 2) = h' * 2 := by rw [IntKind.wrap_u64]; omega
  have w2 : IntKind.u64.wrap (l' * 2) = R := by rw [IntKind.wrap_u64, hR]
  have w3 : bits .or .u64 (h' * 2) q = U := by rw [hU]; exact or_even _ _ (by omega) hh' (by omega) (by omega)
  have w4 : l' / 9223372036854775808 = q := hq.symm
  have ne : a * a - 2 * b * b ≠ 0 := fun e => by have := (root_int a b e).1; omega
  have C : (h > U ∨ (h = U ∧ l > R)) ∧ sg2 a b = 1 ∨ (h < U ∨ (h = U ∧ l < R)) ∧ sg2 a b = -1 := by
    rcases (show 0 < a * a - 2 * b * b ∨ a * a - 2 * b * b < 0 by omega) with g | g
    · refine .inl ⟨by omega, ?_⟩
      rw [sg2_over a b (1) (-1) 1 (sg1_pos ha) (sg1_neg hb) (by decide) (sg1_pos g)]; decide
    · refine .inr ⟨by omega, ?_⟩
      rw [sg2_over a b (1) (-1) (-1) (sg1_pos ha) (sg1_neg hb) (by decide) (sg1_neg g)]; decide
  generalize sg2 a b = z at *
  have lq : 0 ≤ q ∧ q ≤ 1 := by omega
  have lR : 0 ≤ R ∧ R < 18446744073709551616 := by omega
  have lU : 0 ≤ U ∧ U < 18446744073709551616 := by omega
  clear hx hy e1 e2 yy hq hR hU k1 k2 ne
  rcases C with ⟨g | ⟨rfl, g⟩, rfl⟩ | ⟨g | ⟨rfl, g⟩, rfl⟩
  · have d1 : h > U := g
    go_enter Tryz.func70, Tryz.ntmps70
    go_wp2_with (first | (go_at_call_of 94 (Value.int .i64 a); refine (S _).mono ?_; rintro e w' ⟨rfl, rfl⟩) | (go_at_call_of 94 (Value.int .i64 b); refine (T _).mono ?_; rintro e w' ⟨rfl, rfl⟩) | (go_at_call_of 93 (Value.int .u64 x); refine (M _).mono ?_; rintro e w' ⟨rfl, rfl⟩) | (go_at_call_of 93 (Value.int .u64 y); refine (N _).mono ?_; rintro e w' ⟨rfl, rfl⟩))
    go_ret
    exact ⟨ret_int (by omega), rfl⟩
  · have d1 : decide (h > h) = false := by simp
    have d2 : l > R := g
    go_enter Tryz.func70, Tryz.ntmps70
    go_wp2_with (first | (go_at_call_of 94 (Value.int .i64 a); refine (S _).mono ?_; rintro e w' ⟨rfl, rfl⟩) | (go_at_call_of 94 (Value.int .i64 b); refine (T _).mono ?_; rintro e w' ⟨rfl, rfl⟩) | (go_at_call_of 93 (Value.int .u64 x); refine (M _).mono ?_; rintro e w' ⟨rfl, rfl⟩) | (go_at_call_of 93 (Value.int .u64 y); refine (N _).mono ?_; rintro e w' ⟨rfl, rfl⟩))
    go_ret
    exact ⟨ret_int (by omega), rfl⟩
  · have d1 : decide (h > U) = false := by simp; omega
    have d2 : (h == U) = false := by simp; omega
    go_enter Tryz.func70, Tryz.ntmps70
    go_wp2_with (first | (go_at_call_of 94 (Value.int .i64 a); refine (S _).mono ?_; rintro e w' ⟨rfl, rfl⟩) | (go_at_call_of 94 (Value.int .i64 b); refine (T _).mono ?_; rintro e w' ⟨rfl, rfl⟩) | (go_at_call_of 93 (Value.int .u64 x); refine (M _).mono ?_; rintro e w' ⟨rfl, rfl⟩) | (go_at_call_of 93 (Value.int .u64 y); refine (N _).mono ?_; rintro e w' ⟨rfl, rfl⟩))
    go_ret
    exact ⟨ret_int (by omega), rfl⟩
  · have d1 : decide (h > h) = false := by simp
    have d2 : decide (l > R) = false := by simp; omega
    go_enter Tryz.func70, Tryz.ntmps70
    go_wp2_with (first | (go_at_call_of 94 (Value.int .i64 a); refine (S _).mono ?_; rintro e w' ⟨rfl, rfl⟩) | (go_at_call_of 94 (Value.int .i64 b); refine (T _).mono ?_; rintro e w' ⟨rfl, rfl⟩) | (go_at_call_of 93 (Value.int .u64 x); refine (M _).mono ?_; rintro e w' ⟨rfl, rfl⟩) | (go_at_call_of 93 (Value.int .u64 y); refine (N _).mono ?_; rintro e w' ⟨rfl, rfl⟩))
    go_ret
    exact ⟨ret_int (by omega), rfl⟩
set_option maxHeartbeats 1000000 in
theorem l3Two_np (a b : Int) (h0 : -1000000000000000000 ≤ a ∧ a ≤ 1000000000000000000) (h1 : -1000000000000000000 ≤ b ∧ b ≤ 1000000000000000000) (ha : a < 0) (hb : 0 < b) (w : World) :
    Calls Tryz.prog 70 #[.int .i64 a, .int .i64 b] w fun e w' => e = .returned (.int .i64 (sg2 a b)) ∧ w = w' := by
  obtain ⟨x, hx⟩ : ∃ x : Nat, x = a.natAbs := ⟨_, rfl⟩
  obtain ⟨y, hy⟩ : ∃ y : Nat, y = b.natAbs := ⟨_, rfl⟩
  have S : ∀ w, Calls Tryz.prog 94 #[.int .i64 a] w fun e w' => e = .returned (.int .u64 x) ∧ w = w' := fun w => by rw [hx]; exact l3Size_any a (by omega) w
  have T : ∀ w, Calls Tryz.prog 94 #[.int .i64 b] w fun e w' => e = .returned (.int .u64 y) ∧ w = w' := fun w => by rw [hy]; exact l3Size_any b (by omega) w
  obtain ⟨h, l, e1, lh, l0, l1, M⟩ := l3Square_any x (by omega)
  obtain ⟨h', l', e2, lh', l0', l1', N⟩ := l3Square_any y (by omega)
  have yy := mul_in 1000000000000000000 1000000000000000000 (x := (y : Int)) (y := y) (by omega) (by omega)
  simp only [Nat.reduceMul] at yy
  obtain ⟨q, hq⟩ : ∃ q, q = l' / 9223372036854775808 := ⟨_, rfl⟩
  obtain ⟨R, hR⟩ : ∃ R, R = l' * 2 % 18446744073709551616 := ⟨_, rfl⟩
  obtain ⟨U, hU⟩ : ∃ U, U = h' * 2 + q := ⟨_, rfl⟩
  have k1 : a * a = h * 18446744073709551616 + l := by rw [← e1, hx, sizes_sq]
  have k2 : 2 * b * b = U * 18446744073709551616 + R := by
    have := sizes_sq b
    rw [← hy] at this
    have e3 : 2 * b * b = 2 * (b * b) := by grind
    rw [e3, ← this]
    clear hx k1 e1 e3 this
    generalize (y : Int) * (y : Int) = p at *
    omega
  have hh' : h' < 4611686018427387904 := by
    clear hx k1 k2 e1
    generalize (y : Int) * (y : Int) = p at *
    omega
  have w1 : IntKind.u64.wrap (h' * 2) = h' * 2 := by rw [IntKind.wrap_u64]; omega
  have w2 : IntKind.u64.wrap (l' * 2) = R := by rw [IntKind.wrap_u64, hR]
  have w3 : bits .or .u64 (h' * 2) q = U := by rw [hU]; exact or_even _ _ (by omega) hh' (by omega) (by omega)
  have w4 : l' / 9223372036854775808 = q := hq.symm
  have ne : a * a - 2 * b * b ≠ 0 := fun e => by have := (root_int a b e).1; omega
  have C : (h > U ∨ (h = U ∧ l > R)) ∧ sg2 a b = -1 ∨ (h < U ∨ (h = U ∧ l < R)) ∧ sg2 a b = 1 := by
    rcases (show 0 < a * a - 2 * b * b ∨ a * a - 2 * b * b < 0 by omega) with g | g
    · refine .inl ⟨by omega, ?_⟩
      rw [sg2_over a b (-1) (1) 1 (sg1_neg ha) (sg1_pos hb) (by decide) (sg1_pos g)]; decide
    · refine .inr ⟨by omega, ?_⟩
      rw [sg2_over a b (-1) (1) (-1) (sg1_neg ha) (sg1_pos hb) (by decide) (sg1_neg g)]; decide
  generalize sg2 a b = z at *
  have lq : 0 ≤ q ∧ q ≤ 1 := by omega
  have lR : 0 ≤ R ∧ R < 18446744073709551616 := by omega
  have lU : 0 ≤ U ∧ U < 18446744073709551616 := by omega
  clear hx hy e1 e2 yy hq hR hU k1 k2 ne
  rcases C with ⟨g | ⟨rfl, g⟩, rfl⟩ | ⟨g | ⟨rfl, g⟩, rfl⟩
  · have d1 : h > U := g
    go_enter Tryz.func70, Tryz.ntmps70
    go_wp2_with (first | (go_at_call_of 94 (Value.int .i64 a); refine (S _).mono ?_; rintro e w' ⟨rfl, rfl⟩) | (go_at_call_of 94 (Value.int .i64 b); refine (T _).mono ?_; rintro e w' ⟨rfl, rfl⟩) | (go_at_call_of 93 (Value.int .u64 x); refine (M _).mono ?_; rintro e w' ⟨rfl, rfl⟩) | (go_at_call_of 93 (Value.int .u64 y); refine (N _).mono ?_; rintro e w' ⟨rfl, rfl⟩))
    go_ret
    exact ⟨ret_int (by omega), rfl⟩
  · have d1 : decide (h > h) = false := by simp
    have d2 : l > R := g
    go_enter Tryz.func70, Tryz.ntmps70
    go_wp2_with (first | (go_at_call_of 94 (Value.int .i64 a); refine (S _).mono ?_; rintro e w' ⟨rfl, rfl⟩) | (go_at_call_of 94 (Value.int .i64 b); refine (T _).mono ?_; rintro e w' ⟨rfl, rfl⟩) | (go_at_call_of 93 (Value.int .u64 x); refine (M _).mono ?_; rintro e w' ⟨rfl, rfl⟩) | (go_at_call_of 93 (Value.int .u64 y); refine (N _).mono ?_; rintro e w' ⟨rfl, rfl⟩))
    go_ret
    exact ⟨ret_int (by omega), rfl⟩
  · have d1 : decide (h > U) = false := by simp; omega
    have d2 : (h == U) = false := by simp; omega
    go_enter Tryz.func70, Tryz.ntmps70
    go_wp2_with (first | (go_at_call_of 94 (Value.int .i64 a); refine (S _).mono ?_; rintro e w' ⟨rfl, rfl⟩) | (go_at_call_of 94 (Value.int .i64 b); refine (T _).mono ?_; rintro e w' ⟨rfl, rfl⟩) | (go_at_call_of 93 (Value.int .u64 x); refine (M _).mono ?_; rintro e w' ⟨rfl, rfl⟩) | (go_at_call_of 93 (Value.int .u64 y); refine (N _).mono ?_; rintro e w' ⟨rfl, rfl⟩))
    go_ret
    exact ⟨ret_int (by omega), rfl⟩
  · have d1 : decide (h > h) = false := by simp
    have d2 : decide (l > R) = false := by simp; omega
    go_enter Tryz.func70, Tryz.ntmps70
    go_wp2_with (first | (go_at_call_of 94 (Value.int .i64 a); refine (S _).mono ?_; rintro e w' ⟨rfl, rfl⟩) | (go_at_call_of 94 (Value.int .i64 b); refine (T _).mono ?_; rintro e w' ⟨rfl, rfl⟩) | (go_at_call_of 93 (Value.int .u64 x); refine (M _).mono ?_; rintro e w' ⟨rfl, rfl⟩) | (go_at_call_of 93 (Value.int .u64 y); refine (N _).mono ?_; rintro e w' ⟨rfl, rfl⟩))
    go_ret
    exact ⟨ret_int (by omega), rfl⟩
theorem l3Two_any (a b : Int) (h0 : -1000000000000000000 ≤ a ∧ a ≤ 1000000000000000000) (h1 : -1000000000000000000 ≤ b ∧ b ≤ 1000000000000000000) (w : World) :
    Calls Tryz.prog 70 #[.int .i64 a, .int .i64 b] w fun e w' => e = .returned (.int .i64 (sg2 a b)) ∧ w = w' := by
  rcases (show 0 < a ∨ a = 0 ∨ a < 0 by omega) with g | g | g <;> rcases (show 0 < b ∨ b = 0 ∨ b < 0 by omega) with i | i | i
  · exact l3Two_pp a b h0 h1 g i w
  · exact l3Two_pz a b h0 h1 g i w
  · exact l3Two_pn a b h0 h1 g i w
  · exact l3Two_zp a b h0 h1 g i w
  · exact l3Two_zz a b h0 h1 g i w
  · exact l3Two_zn a b h0 h1 g i w
  · exact l3Two_np a b h0 h1 g i w
  · exact l3Two_nz a b h0 h1 g i w
  · exact l3Two_nn a b h0 h1 g i w
end Go.Proofs.YtdpakhggpgdgbaaGreat
/- Out of the text SurdT: what the draws of polygons need. -/
namespace Go.Proofs.YtdpakhggpgdgbaaGreat
set_option maxRecDepth 20000
open Go.ChangeShapes Go.WideShapes Go.ChangeAt Go.RowKit
set_option linter.unusedVariables false
set_option linter.unusedSimpArgs false
theorem sg4_other (a b c d : Int) : sg4 a b c d = joined (sg2 a b) (sg2 c d) (sg2 (a * a + 2 * b * b - 3 * c * c - 6 * d * d) (2 * a * b - 6 * c * d)) := by
  rw [sg4_joined, show a * a + 2 * b * b - 3 * (c * c + 2 * d * d) = a * a + 2 * b * b - 3 * c * c - 6 * d * d by grind, show 2 * a * b - 3 * (2 * c * d) = 2 * a * b - 6 * c * d by grind]
theorem sg2_three (a b : Int) : sg2 a b = 1 ∨ sg2 a b = 0 ∨ sg2 a b = -1 := by have := sg2_in a b; omega
set_option maxHeartbeats 4000000 in
theorem l3Sign_any (a b c d : Int) (ha : -100000000 ≤ a ∧ a ≤ 100000000) (hb : -100000000 ≤ b ∧ b ≤ 100000000) (hc : -100000000 ≤ c ∧ c ≤ 100000000) (hd : -100000000 ≤ d ∧ d ≤ 100000000) (w : World) :
    Calls Tryz.prog 39 #[sv a b c d] w fun e w' => e = .returned (.int .i64 (sg4 a b c d)) ∧ Below w.heap.size w w' := by
  have b1 := mul_in 100000000 100000000 ha ha
  have b2 := mul_in 200000000 100000000 (x := 2 * b) (by omega) hb
  have b3 := mul_in 200000000 100000000 (x := 2 * a) (by omega) hb
  have c1 := mul_in 300000000 100000000 (x := 3 * c) (by omega) hc
  have c2 := mul_in 600000000 100000000 (x := 6 * d) (by omega) hd
  have c3 := mul_in 600000000 100000000 (x := 6 * c) (by omega) hd
  simp only [Nat.reduceMul] at b1 b2 b3 c1 c2 c3
  have A := fun w => l3Two_any a b (by omega) (by omega) w
  have B := fun w => l3Two_any c d (by omega) (by omega) w
  have C := fun w => l3Two_any (a * a + 2 * b * b - 3 * c * c - 6 * d * d) (2 * a * b - 6 * c * d) (by omega) (by omega) w
  have E := sg4_other a b c d
  have hp := sg2_three a b
  have hq := sg2_three c d
  have hr := sg2_in (a * a + 2 * b * b - 3 * c * c - 6 * d * d) (2 * a * b - 6 * c * d)
  generalize sg4 a b c d = z at *
  generalize sg2 a b = p at *
  generalize sg2 c d = q at *
  generalize sg2 (a * a + 2 * b * b - 3 * c * c - 6 * d * d) (2 * a * b - 6 * c * d) = r at *
  have HE := Lib.hid E; clear E
  unfold sv
  rcases hp with rfl | rfl | rfl <;> rcases hq with rfl | rfl | rfl <;>
  · go_enter Tryz.func39, Tryz.ntmps39
    go_wp2_with (first | (go_at_call_of 70 (Value.int .i64 a); refine (A _).mono ?_; rintro e w' ⟨rfl, rfl⟩) | (go_at_call_of 70 (Value.int .i64 c); refine (B _).mono ?_; rintro e w' ⟨rfl, rfl⟩) | (go_at_call 70; refine (C _).mono ?_; rintro e w' ⟨rfl, rfl⟩))
    go_ret
    exact ⟨ret_int (by rw [HE.out]; simp [joined, sg1]), below_one _ _⟩
end Go.Proofs.YtdpakhggpgdgbaaGreat
